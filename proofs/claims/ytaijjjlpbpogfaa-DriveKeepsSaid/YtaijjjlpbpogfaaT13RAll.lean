/- Contracts of the reference's All, Used, Read. -/
import Derived.Test.YtaijjjlpbpogfaaT13RAt
import Derived.Deep.CutBlock
namespace Go.Proofs.Ytaijjjlpbpogfaa
open Go.RowKit

set_option maxHeartbeats 1000000 in
theorem rall_any {w : World} (nm sf : ByteArray) (P : Option Addr) (c : Nat) (ps : List ByteArray) (hl : StrsIn w P ps) (hc : ps.length ≤ c) (hcm : c ≤ maxLen) (hs : sf.size + sumP ps ≤ 1000000) :
    Calls Try.prog 60 #[.agg #[.string nm, .string sf, .slice P ps.length c]] w (fun e w' => e = .returned (.string (joinP sf ps)) ∧ Below w.heap.size w w') := by
  obtain ⟨m, hm⟩ : ∃ m, m = ps.length := ⟨_, rfl⟩
  rw [← hm] at hc ⊢
  have hcm' : c ≤ 9223372036854775807 := hcm
  have hb : Below w.heap.size w (w.alloc (.cells #[.string nm, .string sf, .slice P m c] 62)) := (Below.refl _ _).alloc (Nat.le_refl _) _
  have k1 : (w.alloc (.cells #[.string nm, .string sf, .slice P m c] 62)).cell? ⟨w.heap.size, 1, none⟩ = some (.string sf) := by simp [go_sem]
  have k2 : (w.alloc (.cells #[.string nm, .string sf, .slice P m c] 62)).cell? ⟨w.heap.size, 2, none⟩ = some (.slice P m c) := by simp [go_sem]
  have HL := Lib.hid (And.intro (hl.on hb) (And.intro hm hs))
  clear hl hm hs
  go_enter Try.func60, Try.ntmps60
  go_upto_region 1 with fail
  generalize w.alloc (.cells #[.string nm, .string sf, .slice P m c] 62) = W at *
  have HB := Lib.hid hb
  clear hb
  go_upto_block 0 with fail
  go_wp2_with fail
  go_loopg [3, 4] m (fun g s i wr => ∃ (k : Nat) (S : ByteArray), k ≤ m ∧ g = m - k ∧ s = .string S ∧ i = .int .i64 (k : Int) ∧ wr = W ∧ Hid (S = joinP sf (ps.take k)))
  case atStart => exact ⟨0, sf, Nat.zero_le _, rfl, rfl, rfl, rfl, Lib.hid rfl⟩
  case round =>
    obtain ⟨k, S, hk, rfl, rfl, rfl, rfl, hS⟩ := hrel
    by_cases hlt : k < m
    · have hki : (k : Int) < (m : Int) := by omega
      obtain ⟨x, hx⟩ : ∃ x, ps[k]? = some x := ⟨ps[k]'(by have := HL.out.2.1; omega), List.getElem?_eq_getElem _⟩
      obtain ⟨ad, rfl, -, x0⟩ := HL.out.1 k x hx
      have ht : ps.take (k + 1) = ps.take k ++ [x] := by rw [List.take_add_one, hx]; rfl
      have HS := Lib.hid (show S ++ x = joinP sf (ps.take (k + 1)) by rw [ht, joinP_one, hS.out])
      have hsz : S.size + x.size ≤ 1000000 := by
        have h1 := joinP_size (ps.take (k + 1)) sf
        rw [← HS.out, ByteArray.size_append] at h1
        have h2 := sumP_take ps (k + 1)
        have h3 := HL.out.2.2
        omega
      have hlim : ¬ 9223372036854775807 < S.size + x.size := by omega
      clear hx ht hsz
      go_wp2_with fail
      go_roundg (m - (k + 1))
      case measure => omega
      case rel => exact ⟨k + 1, S ++ x, by omega, rfl, rfl, by go_num, rfl, HS⟩
    · have hki : ¬ (k : Int) < (m : Int) := by omega
      have HE := Lib.hid (show S = joinP sf ps by rw [hS.out, List.take_of_length_le (by have := HL.out.2.1; omega)])
      go_wp2_with fail
      go_ret
      exact ⟨by rw [← HE.out]; rfl, HB.out⟩
/-- What stands at a place. -/
structure PlaceF (W : World) (Y : Option Addr) (k : Nat) (p : FV) (g : Nat) (P : Option Addr) (c : Nat) : Prop where
  at_ : Y = some ⟨g, 0, none⟩
  lt : g < W.heap.size
  n : W.cell? ⟨g, k * 3, none⟩ = some (.string p.1.name)
  s : W.cell? ⟨g, k * 3 + 1, none⟩ = some (.string p.1.safe)
  v : W.cell? ⟨g, k * 3 + 2, none⟩ = some (.slice P p.1.pcs.length c)
  val : p.2 = .slice P p.1.pcs.length c
  strs : StrsIn W P p.1.pcs
  hc : p.1.pcs.length ≤ c
  hcm : c ≤ maxLen
theorem RF.place {W : World} {b : Nat} {D : Dr} {O : Nat → Prop} {Y : Option Addr} {n c : Nat} {fv : List FV} (h : RF W b D O (.slice Y n c) fv) {k : Nat} {p : FV} (hp : fv[k]? = some p) : ∃ g P c', PlaceF W Y k p g P c' := by
  obtain ⟨Y', c1, hv, -, -, -, hin⟩ := h.form
  cases hv
  obtain ⟨g, rfl, hg, -, -, x0, x1, x2⟩ := hin k p hp
  have hpi := h.ps p (List.mem_of_getElem? hp)
  obtain ⟨P, c', hv, -⟩ := id hpi
  rw [hv] at hpi
  obtain ⟨-, h1, h2, -, h3⟩ := hpi.strs
  exact ⟨g, P, c', rfl, hg, x0, x1, by rw [x2, hv], hv, h3, h1, h2⟩
/-- How much there is. -/
def SmallD (D : Dr) : Prop := wtL D.fs ≤ 100000
theorem wt_mem {fs : List Fl} {f : Fl} (h : f ∈ fs) : wtF f ≤ wtL fs := by
  induction fs with
  | nil => cases h
  | cons g r ih =>
    have e : wtL (g :: r) = wtF g + wtL r := rfl
    rw [e]
    rcases List.mem_cons.1 h with rfl | h
    · omega
    · have := ih h
      omega
theorem wt_len (fs : List Fl) : fs.length ≤ wtL fs := by
  induction fs with
  | nil => simp [wtL]
  | cons f r ih => simp [wtL, wtF] at ih ⊢; omega
theorem used_wt (fs : List Fl) : usedD fs ≤ wtL fs := by
  induction fs with
  | nil => simp [wtL, usedD]
  | cons f r ih => simp [wtL, wtF, usedD] at ih ⊢; omega
theorem usedD_append (a b : List Fl) : usedD (a ++ b) = usedD a + usedD b := by simp [usedD]
theorem small_all {D : Dr} (h : SmallD D) {f : Fl} (hf : f ∈ D.fs) : f.safe.size + sumP f.pcs ≤ 1000000 := by
  have h1 := wt_mem hf
  unfold wtF at h1
  have h2 : f.all.size = f.safe.size + sumP f.pcs := joinP_size _ _
  unfold SmallD at h
  omega
set_option maxHeartbeats 1000000 in
theorem rused_any {W : World} {b : Nat} {D : Dr} {O : Nat → Prop} (hD : RD W b D O) (hS : SmallD D) :
    Calls Try.prog 38 #[.pointer (some ⟨b, 0, none⟩)] W (fun e w' => e = .returned (.int .i64 (usedD D.fs : Int)) ∧ Below W.heap.size W w') := by
  obtain ⟨F, fv, hR⟩ := hD
  obtain ⟨Y, c, rfl, hlc, hcm, -, -⟩ := hR.form
  have hcm' : c ≤ 9223372036854775807 := hcm
  obtain ⟨m, hm⟩ : ∃ m, m = fv.length := ⟨_, rfl⟩
  have HR := Lib.hid (And.intro hR (And.intro hm hS))
  rw [← hm] at hlc
  clear hR hm hS hcm
  go_enter Try.func38, Try.ntmps38
  go_wp2_with fail
  go_loopg [3, 4] m (fun g s i wr => ∃ (k n : Nat), k ≤ m ∧ g = m - k ∧ s = .int .i64 (n : Int) ∧ i = .int .i64 (k : Int) ∧ Hid (n = usedD (D.fs.take k) ∧ Below W.heap.size W wr))
  case atStart => exact ⟨0, 0, Nat.zero_le _, rfl, rfl, rfl, Lib.hid ⟨rfl, Below.refl _ _⟩⟩
  case round =>
    obtain ⟨k, n, hk, rfl, rfl, rfl, hH⟩ := hrel
    have hRr := HR.out.1.on hH.out.2
    obtain ⟨c0, -, -, -, -⟩ := hRr.cells
    rw [← HR.out.2.1] at c0
    by_cases hlt : k < m
    · have hki : (k : Int) < (m : Int) := by omega
      obtain ⟨p, hp⟩ : ∃ p, fv[k]? = some p := ⟨fv[k]'(by have := HR.out.2.1; omega), List.getElem?_eq_getElem _⟩
      obtain ⟨g, P, c', hpl⟩ := hRr.place hp
      obtain rfl := hpl.at_
      have x0 := hpl.n
      have x1 := hpl.s
      have x2 := hpl.v
      have hpf : D.fs[k]? = some p.1 := by rw [hRr.fs, List.getElem?_map, hp]; rfl
      have hmem : p.1 ∈ D.fs := List.mem_of_getElem? hpf
      have HA := Lib.hid (rall_any p.1.name p.1.safe P c' p.1.pcs hpl.strs hpl.hc hpl.hcm (small_all HR.out.2.2 hmem))
      have ht : D.fs.take (k + 1) = D.fs.take k ++ [p.1] := by rw [List.take_add_one, hpf]; rfl
      have HN := Lib.hid (show n + (joinP p.1.safe p.1.pcs).size = usedD (D.fs.take (k + 1)) by
        rw [ht, usedD_append, ← hH.out.1]
        simp [usedD, Fl.all])
      have hN : n + (joinP p.1.safe p.1.pcs).size ≤ 1000000 := by
        rw [HN.out]
        have h1 := used_wt D.fs
        have h2 : usedD (D.fs.take (k + 1)) ≤ usedD D.fs := by
          conv => rhs; rw [← List.take_append_drop (k + 1) D.fs, usedD_append]
          omega
        have h3 := HR.out.2.2
        unfold SmallD at h3
        omega
      generalize joinP p.1.safe p.1.pcs = S at *
      generalize p.1.name = nm at *
      generalize p.1.safe = sf at *
      generalize p.1.pcs.length = pl at *
      clear hp hpl hpf hmem ht hRr
      go_wp2_with (go_at_call 60; refine HA.out.mono ?_; rintro e w5 ⟨rfl, h5⟩; have H5 := Lib.hid h5; clear h5)
      go_roundg (m - (k + 1))
      case measure => omega
      case rel => exact ⟨k + 1, n + S.size, by omega, rfl, by go_num, by go_num, Lib.hid ⟨HN.out, hH.out.2.trans (H5.out.mono hH.out.2.size)⟩⟩
    · have hki : ¬ (k : Int) < (m : Int) := by omega
      have HE := Lib.hid (show n = usedD D.fs by rw [hH.out.1, List.take_of_length_le (by rw [hRr.fs, List.length_map]; have := HR.out.2.1; omega)])
      clear hRr
      go_wp2_with fail
      go_ret
      exact ⟨by rw [← HE.out]; rfl, hH.out.2⟩
end Go.Proofs.Ytaijjjlpbpogfaa
