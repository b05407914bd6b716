/- Contracts of the reference's Read, List, Same. -/
import Derived.Test.YtaijjjlpbpogfaaT13RAll
namespace Go.Proofs.Ytaijjjlpbpogfaa
open Go.RowKit

theorem readT_some {D : Dr} {n : ByteArray} {k : Nat} {f : Fl} (hd : D.down = false) (ha : atD D.fs n = some k) (hf : D.fs[k]? = some f) : readT D n = f.all ∧ readE D n = 0 := by
  unfold readT readE
  rw [hd, ha]
  simp [hf]
theorem readT_none {D : Dr} {n : ByteArray} (hd : D.down = false) (ha : atD D.fs n = none) : readT D n = ⟨#[]⟩ ∧ readE D n = 10 := by
  unfold readT readE
  rw [hd, ha]
  simp
theorem readT_down {D : Dr} {n : ByteArray} (hd : D.down = true) : readT D n = ⟨#[]⟩ ∧ readE D n = 13 := by
  unfold readT readE
  rw [hd]
  simp
set_option maxHeartbeats 1000000 in
theorem rread13_any {W : World} {b : Nat} {D : Dr} {O : Nat → Prop} (n : ByteArray) (hD : RD W b D O) (hS : SmallD D) :
    Calls Try.prog 39 #[.pointer (some ⟨b, 0, none⟩), .string n] W (fun e w' => e = .returned (.tuple #[.string (readT D n), .int .i64 (readE D n)]) ∧ Below W.heap.size W w') := by
  have HAt := Lib.hid (rat_any n hD)
  obtain ⟨F, fv, hR⟩ := hD
  obtain ⟨Y, c, rfl, hlc, hcm, -, -⟩ := hR.form
  have hcm' : c ≤ 9223372036854775807 := hcm
  obtain ⟨c0, -, -, c3, -⟩ := hR.cells
  cases hd : D.down with
  | true =>
    rw [hd] at c3
    rw [(readT_down hd).1, (readT_down hd).2]
    clear hd hR hS
    go_enter Try.func39, Try.ntmps39
    go_wp2_with fail
    go_ret2
    exact ⟨rfl, Below.refl _ _⟩
  | false =>
    rw [hd] at c3
    cases ha : atD D.fs n with
    | none =>
      rw [ha] at HAt
      rw [(readT_none hd ha).1, (readT_none hd ha).2]
      unfold placeV at HAt
      clear hd hR hS ha
      go_enter Try.func39, Try.ntmps39
      go_wp2_with (go_at_call 62; refine HAt.out.mono ?_; rintro e w1 ⟨rfl, rfl⟩)
      go_ret2
      exact ⟨rfl, Below.refl _ _⟩
    | some k =>
      rw [ha] at HAt
      unfold placeV at HAt
      obtain ⟨f, hf, -, -⟩ := atD_some ha
      rw [(readT_some hd ha hf).1, (readT_some hd ha hf).2]
      have hmem : f ∈ D.fs := List.mem_of_getElem? hf
      rw [hR.fs, List.getElem?_map] at hf
      obtain ⟨p, hp, rfl⟩ := Option.map_eq_some_iff.1 hf
      obtain ⟨g, P, c', hpl⟩ := hR.place hp
      obtain rfl := hpl.at_
      have x0 := hpl.n
      have x1 := hpl.s
      have x2 := hpl.v
      have hki : (k : Int) < (fv.length : Int) := by have := (List.getElem?_eq_some_iff.1 hp).1; omega
      have HA := Lib.hid (rall_any p.1.name p.1.safe P c' p.1.pcs hpl.strs hpl.hc hpl.hcm (small_all hS hmem))
      unfold Fl.all
      generalize joinP p.1.safe p.1.pcs = S at *
      generalize p.1.name = nm at *
      generalize p.1.safe = sf at *
      generalize p.1.pcs.length = pl at *
      generalize fv.length = m at *
      clear hp hpl hf hmem hd hR hS ha
      go_enter Try.func39, Try.ntmps39
      go_upto_region 4 with (go_at_call 62; refine HAt.out.mono ?_; rintro e w1 ⟨rfl, hw⟩; rw [hw]; clear hw w1)
      go_wp2_with (go_at_call 60; refine HA.out.mono ?_; rintro e w5 ⟨rfl, h5⟩)
      go_ret2
      exact ⟨rfl, h5⟩
/-- What a call that makes a row of texts answers. -/
def RowP13 (w : World) (ps : List ByteArray) (e : Ending) (w' : World) : Prop := ∃ Y n c, e = .returned (.slice Y n c) ∧ AccS w w' (.slice Y n c) ps
theorem listD_down {D : Dr} (p : ByteArray) (h : D.down = true) : listD D p = [] := by unfold listD; rw [h]; rfl
theorem preB_iff (s p : ByteArray) : preB s p = (decide ((p.size : Int) ≤ (s.size : Int)) && ((s.extract 0 p.size).toList == p.toList)) := by
  unfold preB
  rw [Bool.eq_iff_iff]
  simp only [decide_eq_true_eq, Bool.and_eq_true, beq_iff_eq]
  constructor
  · rintro ⟨h1, h2⟩; exact ⟨by omega, by rw [h2]⟩
  · rintro ⟨h1, h2⟩; exact ⟨by omega, toList_inj h2⟩
set_option maxHeartbeats 2000000 in
theorem rlist13_any {W : World} {b : Nat} {D : Dr} {O : Nat → Prop} (pr : ByteArray) (hD : RD W b D O) (hS : SmallD D) :
    Calls Try.prog 41 #[.pointer (some ⟨b, 0, none⟩), .string pr] W (RowP13 W (listD D pr)) := by
  obtain ⟨F, fv, hR⟩ := hD
  obtain ⟨Y, c, rfl, hlc, hcm, -, -⟩ := hR.form
  have hcm' : c ≤ 9223372036854775807 := hcm
  obtain ⟨m, hm⟩ : ∃ m, m = fv.length := ⟨_, rfl⟩
  have hm5 : m ≤ 100000 := by
    have h1 := wt_len D.fs
    rw [hR.fs, List.length_map] at h1
    have h2 := hS
    unfold SmallD at h2
    rw [hR.fs] at h2
    omega
  cases hd : D.down with
  | true =>
    rw [listD_down pr hd]
    obtain ⟨c0, -, -, c3, -⟩ := hR.cells
    rw [hd] at c3
    rw [← hm] at c0
    clear hd hR hS hm
    go_enter Try.func41, Try.ntmps41
    go_wp2_with fail
    go_loopg [5, 6] 1 (fun (g : Nat) v i wr => v = .slice none 0 0 ∧ i = .int .i64 0 ∧ wr = W)
    case atStart => exact ⟨rfl, rfl, rfl⟩
    case round =>
      obtain ⟨rfl, rfl, rfl⟩ := hrel
      by_cases h0 : (0 : Int) < (m : Int)
      · go_wp2_with fail
        go_ret
        exact ⟨_, _, _, rfl, AccS.nil (Below.refl _ _)⟩
      · go_wp2_with fail
        go_ret
        exact ⟨_, _, _, rfl, AccS.nil (Below.refl _ _)⟩
  | false =>
  have hL : listD D pr = (D.fs.map Fl.name).filter fun s => preB s pr := by unfold listD; rw [hd]; rfl
  obtain ⟨L, hLL⟩ : ∃ L, L = listD D pr := ⟨_, rfl⟩
  rw [← hLL]
  have HR := Lib.hid (And.intro hR (And.intro hm (And.intro hd (hLL.trans hL))))
  rw [← hm] at hlc
  clear hR hm hS hcm hLL hL hd
  go_enter Try.func41, Try.ntmps41
  go_wp2_with fail
  go_loopg [5, 6, 7] m (fun g v i _ wr => ∃ (k q c' : Nat) (Z : Option Addr), k ≤ m ∧ g = m - k ∧ v = .slice Z q c' ∧ i = .int .i64 (k : Int) ∧ Hid (AccS W wr (.slice Z q c') (((D.fs.map Fl.name).take k).filter fun s => preB s pr)))
  case atStart => exact ⟨0, 0, 0, none, Nat.zero_le _, rfl, rfl, rfl, Lib.hid (AccS.nil (Below.refl _ _))⟩
  case round =>
    obtain ⟨k, q, c', Z, hk, rfl, rfl, rfl, hH⟩ := hrel
    have hRr := HR.out.1.on hH.out.2
    obtain ⟨c0, -, -, c3, -⟩ := hRr.cells
    rw [← HR.out.2.1] at c0
    rw [HR.out.2.2.1] at c3
    by_cases hlt : k < m
    · have hki : (k : Int) < (m : Int) := by omega
      obtain ⟨p, hp⟩ : ∃ p, fv[k]? = some p := ⟨fv[k]'(by have := HR.out.2.1; omega), List.getElem?_eq_getElem _⟩
      obtain ⟨g, P, c'', hpl⟩ := hRr.place hp
      obtain rfl := hpl.at_
      have x0 := hpl.n
      have hpf : (D.fs.map Fl.name)[k]? = some p.1.name := by rw [hRr.fs, List.map_map, List.getElem?_map, hp]; rfl
      have ht : ((D.fs.map Fl.name).take (k + 1)).filter (fun s => preB s pr) = ((D.fs.map Fl.name).take k).filter (fun s => preB s pr) ++ (if preB p.1.name pr then [p.1.name] else []) := by
        rw [List.take_add_one, hpf, List.filter_append]
        congr 1
        simp only [Option.toList_some, List.filter_cons, List.filter_nil]
      rw [preB_iff] at ht
      generalize p.1.name = nm at *
      by_cases h1 : (pr.size : Int) ≤ (nm.size : Int)
      · rw [decide_eq_true h1, Bool.true_and] at ht
        have h1' : pr.size ≤ nm.size := by omega
        cases h2 : ((nm.extract 0 pr.size).toList == pr.toList) with
        | true =>
          rw [h2, if_pos rfl] at ht
          obtain ⟨os, hos⟩ : ∃ os, os = ((D.fs.map Fl.name).take k).filter (fun s => preB s pr) := ⟨_, rfl⟩
          have hln : os.length ≤ 100000 := by
            have := List.length_filter_le (fun s => preB s pr) ((D.fs.map Fl.name).take k)
            rw [hos]
            rw [List.length_take] at this
            omega
          have hq := hH.out.ins.1
          rw [← hos] at ht hq hH
          obtain ⟨Y7, c7, W7, hap, h7⟩ := hH.out.one nm hln
          rw [← hq] at hap h7
          have HP := Lib.hid hap
          have H7 := Lib.hid (show AccS W W7 (.slice Y7 (q + 1) c7) _ from by rw [← ht] at h7; exact h7)
          clear hp hpl hpf ht hRr hap h7 hos hln hq
          go_wp2_with (at_builtin; refine wpList_append_run rfl _ _ 38 rfl rfl rfl HP.out ?_)
          go_roundg (m - (k + 1))
          case measure => omega
          case rel => exact ⟨k + 1, q + 1, c7, Y7, by omega, rfl, rfl, by go_num, Lib.hid H7.out⟩
        | false =>
          rw [h2] at ht
          simp only [Bool.false_eq_true, if_false, List.append_nil] at ht
          have HT := Lib.hid ht
          clear hp hpl hpf ht hRr
          go_wp2_with fail
          go_roundg (m - (k + 1))
          case measure => omega
          case rel => exact ⟨k + 1, q, c', Z, by omega, rfl, rfl, by go_num, Lib.hid (by rw [HT.out]; exact hH.out)⟩
      · rw [decide_eq_false h1, Bool.false_and] at ht
        simp only [Bool.false_eq_true, if_false, List.append_nil] at ht
        have HT := Lib.hid ht
        clear hp hpl hpf ht hRr
        go_wp2_with fail
        go_roundg (m - (k + 1))
        case measure => omega
        case rel => exact ⟨k + 1, q, c', Z, by omega, rfl, rfl, by go_num, Lib.hid (by rw [HT.out]; exact hH.out)⟩
    · have hki : ¬ (k : Int) < (m : Int) := by omega
      have HE := Lib.hid (show L = ((D.fs.map Fl.name).take k).filter fun s => preB s pr by rw [HR.out.2.2.2, List.take_of_length_le (by rw [hRr.fs, List.length_map, List.length_map]; have := HR.out.2.1; omega)])
      clear hRr
      go_wp2_with fail
      go_ret
      exact ⟨_, _, _, rfl, by rw [HE.out]; exact hH.out⟩
end Go.Proofs.Ytaijjjlpbpogfaa
