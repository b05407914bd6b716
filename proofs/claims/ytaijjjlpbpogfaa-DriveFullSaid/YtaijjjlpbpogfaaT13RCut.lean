/- Contract of the reference's cut. -/
import Derived.Test.YtaijjjlpbpogfaaT13RPut
namespace Go.Proofs.Ytaijjjlpbpogfaa
open Go.RowKit

theorem flatFl_one {l : List FV} (h : ∀ p ∈ l, ∃ P k d, p.2 = .slice P k d) : ∀ u ∈ flatFl l, u.oneCell' = true := fun u hu => by
  obtain ⟨p, hp, hu⟩ := List.mem_flatMap.1 hu
  obtain ⟨P, k, d, e⟩ := h p hp
  simp only [cellsFl, e, List.mem_cons, List.not_mem_nil, or_false] at hu
  rcases hu with rfl | rfl | rfl <;> rfl
/-- 'append(l, fs...)' of files that lie in memory. -/
theorem AccF.app {w W : World} {v : Value} {l : List FV} (h : AccF w W v l) (ad : Addr) (m c : Nat) (l2 : List FV) (hm : m = l2.length) (hX : ∀ j u, (flatFl l2)[j]? = some u → W.cell? (ad.add j) = some u) (h1 : ∀ p ∈ l2, ∃ P k d, p.2 = .slice P k d) (hlen : l.length + m ≤ 200000) :
    ∃ Y' c' W', (Builtin.append_ #[55, 55] 55 #[v, .slice (some ad) m c]).run Try.prog W = .ok (.slice Y' (l.length + m) c') W' ∧ AccF w W' (.slice Y' (l.length + m) c') (l ++ l2) := by
  obtain ⟨i0, hi, hz0, hz1, hz2⟩ := info_parts infoFl
  obtain ⟨v', w', hr, ho, hg, _, _⟩ := run_append_own_at (P := Try.prog) W w.heap.size 55 55 62 i0 (.agg #[.string ⟨#[]⟩, .string ⟨#[]⟩, .slice none 0 0]) 3 56 Try.underlying55 hi hz0 hz1 hz2 rfl (by decide) v l.length _ h.1 ad m c (flatFl l2) (by rw [flatFl_length, hm]) hX (flatFl_one h1) (by unfold maxLen; omega) (by omega) h.2.size
  rw [← flatFl_append] at ho
  have ha : AccF w w' v' (l ++ l2) := ⟨by rw [List.length_append, ← hm]; exact ho, h.2.grown hg h.2.size (fun _ hk => own_ge h.1 hk)⟩
  obtain ⟨Y', c', hv⟩ := ha.form
  rw [List.length_append, ← hm] at hv
  subst hv
  exact ⟨Y', c', w', hr, ha⟩
theorem RF.flat {W : World} {b : Nat} {D : Dr} {O : Nat → Prop} {g n c : Nat} {fv : List FV} (h : RF W b D O (.slice (some ⟨g, 0, none⟩) n c) fv) : g < W.heap.size ∧ ∀ j u, (flatFl fv)[j]? = some u → W.cell? ⟨g, j, none⟩ = some u := by
  refine ⟨ownBlock_lt h.own rfl, fun j u hu => ?_⟩
  have := World.ownsRow.cells h.own (g := g) rfl j u hu
  rwa [Addr.add_lit, Nat.zero_add] at this
theorem cut_map (fv : List FV) (k : Nat) : (fv.take k ++ fv.drop (k + 1)).map Prod.fst = cutD (fv.map Prod.fst) k := by
  unfold cutD
  rw [List.map_append, List.map_take, List.map_drop]
set_option maxHeartbeats 2000000 in
theorem rcut_any {W : World} {b : Nat} {D : Dr} {O : Nat → Prop} (hD : RD W b D O) (hS : D.fs.length ≤ 100000) (k : Nat) (hk : k < D.fs.length) :
    Calls Try.prog 65 #[.pointer (some ⟨b, 0, none⟩), .int .i64 (k : Int)] W (LeftB O W b { D with fs := cutD D.fs k }) := by
  obtain ⟨F, fv, hR⟩ := hD
  have hfl : D.fs.length = fv.length := by rw [hR.fs, List.length_map]
  obtain ⟨Y, c, rfl, hlc, hcm, -, hin⟩ := hR.form
  have hcm' : c ≤ 9223372036854775807 := hcm
  obtain ⟨x, hx⟩ : ∃ x, fv[k]? = some x := ⟨fv[k]'(by omega), List.getElem?_eq_getElem _⟩
  obtain ⟨g, rfl, -⟩ := hin k x hx
  obtain ⟨hgl, hfl2⟩ := hR.flat
  obtain ⟨c0, -, -, -, -⟩ := hR.cells
  obtain ⟨m, hm⟩ : ∃ m, m = fv.length := ⟨_, rfl⟩
  have hps : ∀ p ∈ fv, ∃ P k d, p.2 = .slice P k d := fun p hp => by
    obtain ⟨P, d, e, -⟩ := hR.ps p hp
    exact ⟨P, _, d, e⟩
  obtain ⟨Y1, c1, W1, ap1, a1⟩ := (AccF.nil (Below.refl W.heap.size W)).app ⟨g, 0, none⟩ k c (fv.take k) (by rw [List.length_take]; omega) (fun j u hu => by
    rw [flatFl_take] at hu
    rw [Addr.add_lit, Nat.zero_add]
    rw [List.getElem?_take] at hu
    split at hu
    · exact hfl2 j u hu
    · cases hu) (fun p hp => hps p (List.mem_of_mem_take hp)) (by simp; omega)
  have ek : (([] : List FV).length + k) = k := by simp
  rw [ek] at ap1 a1
  rw [List.nil_append] at a1
  have hrest : ∀ j u, (flatFl (fv.drop (k + 1)))[j]? = some u → W1.cell? ⟨g, (k + 1) * 3 + j, none⟩ = some u := fun j u hu => by
    rw [flatFl_drop, List.getElem?_drop] at hu
    exact (a1.2.cell (p := ⟨g, (k + 1) * 3 + j, none⟩) hgl).trans (hfl2 _ u hu)
  have hR1 := hR.on a1.2
  obtain ⟨d0, -, -, -, -⟩ := hR1.cells
  have f0 := hR1.unfrozen 0
  rw [← hm] at c0 d0 hlc
  have HA := Lib.hid a1
  have HP1 := Lib.hid ap1
  have HR := Lib.hid (And.intro hR (And.intro hm (And.intro hps hrest)))
  have hkm : k < m := by omega
  have hm5 : m ≤ 100000 := by omega
  have hki : (k : Int) + 1 ≤ (m : Int) := by omega
  have hkc : (k : Int) ≤ (c : Int) := by omega
  have hkc1 : (k : Int) + 1 ≤ (c : Int) := by omega
  have q1 : ((k : Int) + 1).toNat = k + 1 := by omega
  have HFin := Lib.hid (fun wx v (h : AccF W wx v (fv.take k ++ fv.drop (k + 1))) => HR.out.1.newRow (Below.refl _ _) h (fun p hp => by
    rcases List.mem_append.1 hp with hp | hp
    · exact (HR.out.1.ps p (List.mem_of_mem_take hp)).keep fun k h _ => ⟨⟨h.1, h.2.1⟩, rfl⟩
    · exact (HR.out.1.ps p (List.mem_of_mem_drop hp)).keep fun k h _ => ⟨⟨h.1, h.2.1⟩, rfl⟩))
  have HM := Lib.hid (show ({ D with fs := (fv.take k ++ fv.drop (k + 1)).map Prod.fst } : Dr) = { D with fs := cutD D.fs k } by rw [cut_map, hR.fs])
  have HF0 := Lib.hid (fun W' (hb : Below W.heap.size W W') => show W'.cell? ⟨b, 0, none⟩ = some (.slice (some ⟨g, 0, none⟩) m c) ∧ W'.frozen? ⟨b, 0, none⟩ = false from ⟨by have := (HR.out.1.on hb).cells.1; rwa [← HR.out.2.1] at this, (HR.out.1.on hb).unfrozen 0⟩)
  clear hR hR1 hm hps hrest a1 ap1 hfl hfl2 hx hin hS hcm hk ek
  go_enter Try.func65, Try.ntmps65
  go_upto_region 2 with (at_builtin; refine wpList_append_run rfl _ _ 55 rfl rfl rfl HP1.out ?_)
  by_cases hck : c = k + 1
  · have hdr : fv.drop (k + 1) = [] := List.drop_eq_nil_of_le (by have := HR.out.2.1; omega)
    have hmk : m = k + 1 := by omega
    obtain ⟨Y5, c5, W5, ap5, a5⟩ := HA.out.app ⟨g, 0, none⟩ 0 0 [] rfl (fun j u hu => by simp [flatFl] at hu) (fun p hp => by cases hp) (by rw [List.length_take]; omega)
    have e5 : (fv.take k).length + 0 = k := by rw [List.length_take]; have := HR.out.2.1; omega
    rw [e5] at ap5 a5
    have HP := Lib.hid ap5
    have H5 := Lib.hid (show AccF W W5 _ (fv.take k ++ fv.drop (k + 1)) by rw [hdr]; exact a5)
    obtain ⟨l0, l1⟩ := HF0.out W5 H5.out.2
    clear ap5 a5 hdr e5
    subst hck
    subst hmk
    go_wp2_with (at_builtin; refine wpList_append_run rfl _ _ 55 rfl rfl rfl HP.out ?_)
    refine bodyPost_end (results_none rfl _ _ _) rfl ?_
    refine ⟨rfl, ?_, (HFin.out _ _ H5.out).2⟩
    rw [← HM.out]
    exact (HFin.out _ _ H5.out).1
  · obtain ⟨Y5, c5, W5, ap5, a5⟩ := HA.out.app ⟨g, (k + 1) * 3, none⟩ (m - (k + 1)) (c - (k + 1)) (fv.drop (k + 1)) (by rw [List.length_drop]; have := HR.out.2.1; omega) (fun j u hu => by
      rw [Addr.add_lit]
      exact HR.out.2.2.2 j u hu) (fun p hp => HR.out.2.2.1 p (List.mem_of_mem_drop hp)) (by rw [List.length_take]; omega)
    have e5 : (fv.take k).length + (m - (k + 1)) = m - 1 := by rw [List.length_take]; have := HR.out.2.1; omega
    rw [e5] at ap5 a5
    have HP := Lib.hid ap5
    have H5 := Lib.hid a5
    obtain ⟨l0, l1⟩ := HF0.out W5 H5.out.2
    have q2 : ¬ c = k + 1 := hck
    clear ap5 a5 e5
    go_wp2_with (at_builtin; refine wpList_append_run rfl _ _ 55 rfl rfl rfl HP.out ?_)
    refine bodyPost_end (results_none rfl _ _ _) rfl ?_
    refine ⟨rfl, ?_, (HFin.out _ _ H5.out).2⟩
    rw [← HM.out]
    exact (HFin.out _ _ H5.out).1
end Go.Proofs.Ytaijjjlpbpogfaa
