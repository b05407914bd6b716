/- Contract of the program's Get. -/
import Derived.Test.YtbkpnbagmojkaaaDoorT7Con2M
import Derived.Test.YtbkpnbagmojkaaaDoorP7Mem
import Derived.Test.YtbkpnbagmojkaaaDoorP7Clone
namespace Go.Proofs.YtbkpnbagmojkaaaDoor
open Go.RowKit

set_option maxHeartbeats 400000 in
theorem get1_any (a b name : ByteArray) (B : Nat) (w : World) (hB : w.cell? ⟨B, 0, none⟩ = some (.string name)) :
    Calls Tryd.prog 17 #[.agg #[.string a, .string b], .pointer (some ⟨B, 0, none⟩)] w (fun e w' => e = .returned (.bool (a.toList == name.toList)) ∧ Below w.heap.size w w') := by
  obtain ⟨w1, hw1⟩ : ∃ W, W = w.alloc (.cells #[.string a, .string b] 33) := ⟨_, rfl⟩
  have b1 : Below w.heap.size w w1 := hw1 ▸ (Below.refl _ _).alloc (Nat.le_refl _) _
  have v1 : w1.heap[w.heap.size]? = some (.cells #[.string a, .string b] 33 (0, 0)) := hw1 ▸ heap_alloc_new _ _
  have c0 : w1.cell? ⟨w.heap.size, 0, none⟩ = some (.string a) := cells_of v1 0 (by show _ < 2; decide)
  have cB : w1.cell? ⟨B, 0, none⟩ = some (.string name) := CK.of b1 _ _ hB
  have H1 := Lib.hid b1
  clear b1 v1 hB
  go_enter Tryd.func17, Tryd.ntmps17
  go_upto_region 1 with (fail)
  rw [← hw1]
  clear hw1
  go_wp2_with fail
  go_ret
  exact ⟨rfl, H1.out⟩

/-- The place of the first name that is this one; below 0, if there is none. -/
def IxPost (w : World) (ps : Prs) (nm : List Int) (e : Ending) (w' : World) : Prop :=
  Below w.heap.size w w' ∧ ((∃ (k : Nat) (x : List Int × List Int), e = .returned (.int .i64 (k : Int)) ∧ (∀ i y, i < k → ps[i]? = some y → y.1 ≠ nm) ∧ ps[k]? = some x ∧ x.1 = nm) ∨ (e = .returned (.int .i64 (-1)) ∧ ∀ (i : Nat) (y : List Int × List Int), ps[i]? = some y → y.1 ≠ nm))
set_option maxRecDepth 100000 in
set_option maxHeartbeats 2000000 in
theorem ixfunc_any (X : Option Addr) (n c : Nat) (ps : Prs) (name : ByteArray) (B : Nat) (w : World) (hn : n = ps.length) (hp : PairsIn w X ps) (hl : ps.length ≤ 1000) (hB : w.cell? ⟨B, 0, none⟩ = some (.string name)) :
    Calls Tryd.prog 16 #[.slice X n c, .func (.func 17) #[] #[.pointer (some ⟨B, 0, none⟩)]] w (IxPost w ps (txt name)) := by
  have HP := Lib.hid hp
  have HB := Lib.hid hB
  have HN := Lib.hid (And.intro hn hl)
  have hn2 : n ≤ 1000 := by omega
  clear hp hB hn hl
  go_enter Tryd.func16, Tryd.ntmps16
  go_wp2_with fail
  go_loopg [5, 8] n (fun g _ i wr => ∃ k : Nat, k ≤ n ∧ g = n - k ∧ i = .int .i64 (k : Int) ∧ Below w.heap.size w wr ∧ Hid (∀ i y, i < k → ps[i]? = some y → y.1 ≠ txt name))
  case atStart => exact ⟨0, by omega, rfl, rfl, Below.refl _ _, Lib.hid fun i y h => by omega⟩
  case round =>
    obtain ⟨k, hk, rfl, rfl, hb, hne⟩ := hrel
    have HBL := Lib.hid hb
    by_cases hlt : k < n
    · have hkz : (k : Int) < (n : Int) := by omega
      obtain ⟨x, hx⟩ : ∃ x, ps[k]? = some x := ⟨ps[k]'(by have := HN.out.1; omega), List.getElem?_eq_getElem _⟩
      obtain ⟨bx, ad, rfl, ha, a0, a1⟩ := (HP.out.on hb) k x hx
      have hG := fun W (h : W.cell? ⟨B, 0, none⟩ = some (.string name)) => get1_any (strOfNums x.1) (strOfNums x.2) name B W h
      have HG := Lib.hid hG
      have HX := Lib.hid (And.intro hx bx)
      clear hG hb hx bx
      go_wp2_with fail
      clear a0 a1
      go_at_call 17
      refine (HG.out _ (CK.of HBL.out _ _ HB.out)).mono ?_
      rintro e w2 ⟨rfl, hb2⟩
      have H2 := Lib.hid (HBL.out.trans (hb2.mono HBL.out.size))
      clear hb2
      by_cases k1 : x.1 = txt name
      · rw [name_eq k1]
        have HK := Lib.hid k1
        clear k1
        go_wp2_with fail
        go_ret
        exact ⟨H2.out, .inl ⟨k, x, rfl, hne.out, HX.out.1, HK.out⟩⟩
      · rw [name_ne HX.out.2.1 k1]
        have HK := Lib.hid k1
        clear k1
        go_wp2_with fail
        go_roundg (n - (k + 1))
        case measure => omega
        case rel =>
          refine ⟨k + 1, by omega, rfl, by go_num, H2.out, Lib.hid fun i y hi hy => ?_⟩
          rcases Nat.lt_or_ge i k with h | h
          · exact hne.out i y h hy
          · obtain rfl : i = k := by omega
            rw [HX.out.1] at hy
            cases hy
            exact HK.out
    · obtain rfl : k = n := by omega
      have hkz : ¬ (k : Int) < (k : Int) := by omega
      clear hb
      go_wp2_with fail
      go_ret
      exact ⟨HBL.out, .inr ⟨rfl, fun i y hy => hne.out i y (by have := (List.getElem?_eq_some_iff.1 hy).1; have := HN.out.1; omega) hy⟩⟩

set_option maxRecDepth 100000 in
set_option maxHeartbeats 2000000 in
theorem pget_any (X : Option Addr) (n c : Nat) (ps : Prs) (name : ByteArray) (w : World) (hn : n = ps.length) (hp : PairsIn w X ps) (hl : ps.length ≤ 1000) (hv : ∀ p ∈ ps, p.2.length ≤ 281474976710656) :
    Calls Tryd.prog 9 #[.slice X n c, .string name] w (GetPost w (getR ps (txt name))) := by
  obtain ⟨w1, hw1⟩ : ∃ W, W = w.alloc (.cells #[.string name] 9) := ⟨_, rfl⟩
  have b1 : Below w.heap.size w w1 := hw1 ▸ (Below.refl _ _).alloc (Nat.le_refl _) _
  have v1 : w1.heap[w.heap.size]? = some (.cells #[.string name] 9 (0, 0)) := hw1 ▸ heap_alloc_new _ _
  have cB : w1.cell? ⟨w.heap.size, 0, none⟩ = some (.string name) := cells_of v1 0 (by show _ < 1; decide)
  have P1 := Lib.hid (ixfunc_any X n c ps name w.heap.size w1 hn (hp.on b1) hl cB)
  have H1 := Lib.hid (And.intro b1 hp)
  have HN := Lib.hid (And.intro hn (And.intro hl hv))
  have hn2 : n ≤ 1000 := by omega
  clear b1 v1 cB hp hn hl hv
  go_enter Tryd.func9, Tryd.ntmps9
  go_upto_region 1 with (fail)
  rw [← hw1]
  clear hw1
  go_wp2_with fail
  go_at_call 16
  refine P1.out.mono ?_
  rintro e w2 ⟨hb2, ⟨k, x, rfl, h1, h2, h3⟩ | ⟨rfl, h1⟩⟩
  · have H2 := Lib.hid (H1.out.1.trans (hb2.mono H1.out.1.size))
    obtain ⟨bx, ad, rfl, ha, a0, a1⟩ := (H1.out.2.on H2.out) k x h2
    have hkl := (List.getElem?_eq_some_iff.1 h2).1
    have hkn : (k : Int) < (n : Int) := by have := HN.out.1; omega
    have hk0 : (0 : Int) ≤ (k : Int) := by omega
    have hxl := HN.out.2.2 x (List.mem_of_getElem? h2)
    have hc := fun W => clone_any (strOfNums x.2) W (by rw [size_str]; exact hxl)
    have HC := Lib.hid hc
    have HG := Lib.hid (getR_some ps (txt name) k x h1 h2 h3)
    clear hb2 h1 h2 h3 hc hxl hkl bx a0
    go_wp2_with fail
    clear a1
    go_at_call 18
    refine (HC.out _).mono ?_
    rintro e w3 ⟨rfl, hb3⟩
    have H3 := Lib.hid (H2.out.trans (hb3.mono H2.out.size))
    clear hb3
    go_wp2_with fail
    go_ret2
    exact ⟨H3.out, by rw [HG.out]; rfl⟩
  · have H2 := Lib.hid (H1.out.1.trans (hb2.mono H1.out.1.size))
    have HG := Lib.hid (getR_none ps (txt name) h1)
    clear hb2 h1
    go_wp2_with fail
    go_ret2
    exact ⟨H2.out, by rw [HG.out]; rfl⟩
end Go.Proofs.YtbkpnbagmojkaaaDoor
