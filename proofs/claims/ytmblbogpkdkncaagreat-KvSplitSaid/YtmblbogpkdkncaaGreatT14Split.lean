/- The walk of KvSplit. -/
import Derived.Test.YtmblbogpkdkncaaGreatMT14Open
namespace Go.Proofs.YtmblbogpkdkncaaGreat
open Go.RowKit

theorem doW_append (l a b : List Wr) : doW l (a ++ b) = doW (doW l a) b := List.foldl_append
theorem WrIn.drop {W : World} {ad : Addr} {ts : List Wr} (h : WrIn W (some ad) ts) (j : Nat) : WrIn W (some (ad.add (j * 3))) (ts.drop j) := fun i t ht => by
  rw [List.getElem?_drop] at ht
  obtain ⟨ad', he, h1, h2⟩ := h _ t ht
  cases he
  exact ⟨_, rfl, by rw [addr_add_block]; exact h1, by rw [addr_add_add, ← Nat.add_mul]; exact h2⟩
/-- The sites, and two rows beside them. -/
def R2 (w W : World) (Y : Nat → Prop) (S : List Site) (X : Option Addr) (ct : List Wr) (Z : Option Addr) (L : List Wr) : Prop := RowK w W Y S X ct ∧ RowK w W Y S Z L
section
variable {w W : World} {Y : Nat → Prop} {S S' : List Site} {X Z : Option Addr} {ct L : List Wr}
theorem LeftK.r2 {w' : World} (h : LeftK w W Y S' w') (hr : R2 w W Y S X ct Z L) : R2 w w' Y S' X ct Z L := ⟨h.row hr.1, h.row hr.2⟩
theorem r2_do {W' : World} (h : RowK w W Y S X ct) (hb : Below W.heap.size W W') (hZ : WrIn W' Z L) (hz : ∀ a, Z = some a → (W.heap.size ≤ a.block ∧ a.block < W'.heap.size) ∨ (none : Option Addr) = some a) : R2 w W' (fun k => Y k ∨ (W.heap.size ≤ k ∧ k < W'.heap.size)) S X ct Z L :=
  ⟨⟨h.1.new hb, h.2.1.on hb, fun a ha => (h.2.2 a ha).imp .inl id⟩, ⟨h.1.new hb, hZ, fun a ha => by
    rcases hz a ha with h | h
    · exact .inl (.inr h)
    · cases h⟩⟩
theorem R2.swap {s t : Site} (h : R2 w W Y (s :: t :: S) X ct Z L) : R2 w W Y (t :: s :: S) X ct Z L := ⟨h.1.swap, h.2.swap⟩
theorem r2_apply {b ps : Nat} {q : Nat} {u : Option Int} {l : List Wr} (h : R2 w W Y ((b, ⟨[(aN, l)], q, u⟩, [(ps, aN, l)]) :: S) X ct Z L) (V : Option Addr) (m c : Nat) (ws : List Wr) (hV : WrIn W V ws) (hb : Beside w Y V) (hm : m = ws.length) (hm1 : m ≤ 100) (hr : costW ws ≤ q) (hmay : ws.all mayW = true) :
    Calls Tryz.prog 11 #[.pointer (some ⟨ps, 0, none⟩), .slice V m c] W (fun e w' => e = .returned (.int .i64 0) ∧ ∃ q' u', q ≤ q' + costW ws ∧ R2 w w' Y ((b, ⟨[(aN, doW l ws)], q', u'⟩, [(ps, aN, doW l ws)]) :: S) X ct Z L) := by
  have h1 := hk_apply1 h.1.1 V m c ws hV hb hm hm1 hr
  rw [hmay] at h1
  simp only [if_true] at h1
  exact h1.mono fun e w' ⟨k1, q', u', k2, k3⟩ => ⟨k1, q', u', k2, k3.r2 h⟩
theorem r2_compact {b ps : Nat} {q : Nat} {u : Option Int} {l : List Wr} (h : R2 w W Y ((b, ⟨[(aN, l)], q, u⟩, [(ps, aN, l)]) :: S) X ct Z L) (hr : costW l ≤ q) :
    Calls Tryz.prog 13 #[.pointer (some ⟨ps, 0, none⟩)] W (fun e w' => e = .returned (.int .i64 0) ∧ R2 w w' Y ((b, ⟨[(aN, l)], q - costW l, some (sizeK l : Int)⟩, [(ps, aN, l)]) :: S) X ct Z L) := by
  have h1 := hk_compact h.1.1 (i := 0) rfl (liesAt_one aN l q u).symm hr
  rw [one_compact] at h1
  exact h1.mono fun e w' ⟨k1, k2⟩ => ⟨k1, k2.r2 h⟩
end
theorem open_one (n : ByteArray) (l : List Wr) (q : Nat) (u : Option Int) : openK ⟨[(n, l)], q, u⟩ n = ⟨[(n, l)], q, none⟩ := by simp [openK]
set_option maxRecDepth 100000 in
set_option maxHeartbeats 1000000 in
theorem split_law (A : Option Addr) (c : Nat) (xs : List Wr) (a : Int) (w : World) (hX : WrIn w A xs) (hc : xs.length ≤ c) (hcm : c ≤ maxLen) (hs : ∀ x ∈ xs, x.key.size ≤ 9223372036854775807 ∧ x.val.size ≤ 9223372036854775807) (ha : -9223372036854775808 ≤ a ∧ a ≤ 9223372036854775807) :
    Calls Tryz.prog 6 #[.slice A xs.length c, .int .i64 a] w (fun e w' => e = .returned (.bool true) ∧ Below w.heap.size w w') := by
  have hCt := rcut14_any A c xs w hX hc hcm hs
  obtain ⟨n, hn⟩ : ∃ n, n = xs.length := ⟨_, rfl⟩
  rw [← hn] at hCt ⊢
  have HCt := Lib.hid hCt
  clear hX hc hcm hs hn hCt
  go_enter Tryz.func6, Tryz.ntmps6
  go_upto_region 2 with (go_at_call 9; refine HCt.out.mono ?_; rintro e w3 ⟨v, rfl, ha⟩; obtain ⟨X3, c3, rfl, hcc, hc3m, hw3, hb3, hh3⟩ := own_beside (no_sites w) ha; have HNo := Lib.hid (fun e => ha.cap (Y := X3) e); have H3 := Lib.hid (And.intro hcc (And.intro hc3m (And.intro hw3 (And.intro hb3 hh3)))); clear ha hcc hc3m hw3 hb3 hh3)
  clear HCt
  obtain ⟨ct, hct⟩ : ∃ ct, ct = cutW xs := ⟨_, rfl⟩
  have HCf := Lib.hid (show (∀ x ∈ ct, x.key.size ≤ 210 ∧ x.val.size ≤ 100) ∧ ct.length ≤ 5 by rw [hct]; exact ⟨cutW_few, cutW_length xs⟩)
  rw [← hct] at H3 ⊢
  clear hct
  obtain ⟨m, hm⟩ : ∃ m, m = ct.length := ⟨_, rfl⟩
  have HM := Lib.hid hm
  have hm5 : m ≤ 5 := by rw [hm]; exact HCf.out.2
  have hMy := rmay14_any X3 c3 ct w3 H3.out.2.2.1 (by have := HCf.out.2; omega)
  rw [← hm] at hMy ⊢
  clear hm
  obtain ⟨mm, hmm⟩ : ∃ mm, mm = ct.all mayW := ⟨_, rfl⟩
  rw [← hmm] at hMy
  have HMm := Lib.hid hmm
  have HMy := Lib.hid hMy
  obtain ⟨Y3, hY3⟩ : ∃ Y3 : Nat → Prop, Y3 = fun k => False ∨ (w.heap.size ≤ k ∧ k < w3.heap.size) := ⟨_, rfl⟩
  have HH3 := Lib.hid (show RowK w w3 Y3 [] X3 ct by rw [hY3]; exact ⟨H3.out.2.2.2.2, H3.out.2.2.1, H3.out.2.2.2.1⟩)
  have HC3 := Lib.hid (And.intro H3.out.1 H3.out.2.1)
  clear hmm hMy hY3 H3
  go_upto_region 3 with (go_at_call 10; refine HMy.out.mono ?_; rintro e w4 ⟨rfl, hb4⟩; have H4 := Lib.hid (show RowK w w4 Y3 [] X3 ct from ⟨HH3.out.1.on hb4, HH3.out.2.1.on hb4, HH3.out.2.2⟩); clear hb4)
  clear HMy HH3
  cases mm with
  | false =>
    have HB4 := Lib.hid H4.out.1.below
    go_wp2_with (go_at_call 16; refine (lives14 _).mono ?_; rintro e w8 ⟨rfl, h8⟩; have H8 := Lib.hid h8; clear h8)
    go_ret
    exact ⟨by first | rfl | simp, HB4.out.trans (H8.out.mono HB4.out.size)⟩
  | true =>
    obtain ⟨ha1, ha2⟩ := ha
    obtain ⟨y, hy⟩ : ∃ y : Nat, (y : Int) = if a < 0 then -(a + 1) else a := by
      by_cases h : a < 0
      · exact ⟨(-(a + 1)).toNat, by rw [if_pos h]; omega⟩
      · exact ⟨a.toNat, by rw [if_neg h]; omega⟩
    have hy63 : y ≤ 9223372036854775807 := by split at hy <;> omega
    have HY := Lib.hid hy
    clear hy
    go_upto_if 22 with fail
    go_cut [1] from 21 to 25 (fun v wx => v = .int .i64 (y : Int) ∧ w4 = wx)
    case first =>
      by_cases h0 : a < 0
      · have e := HY.out
        rw [if_pos h0] at e
        have HE := Lib.hid e
        clear e
        go_wp2_with fail
        go_meet
        case rel => exact ⟨by rw [HE.out], rfl⟩
      · have e := HY.out
        rw [if_neg h0] at e
        have HE := Lib.hid e
        clear e
        go_wp2_with fail
        go_meet
        case rel => exact ⟨by rw [HE.out], rfl⟩
    case rest =>
    obtain ⟨rfl, rfl⟩ := hcut
    clear HY ha1 ha2
    obtain ⟨j, hj⟩ : ∃ j, j = y % (m + 1) := ⟨_, rfl⟩
    have hjm : j ≤ m := by rw [hj]; have := Nat.mod_lt y (show 0 < m + 1 by omega); omega
    have hmod : (y : Int) % ((m : Int) + 1) = (j : Int) := by rw [hj]; rfl
    have HJ := Lib.hid hj
    clear hj
    go_upto_region 7 with fail
    go_cut [1] from 26 to 30 (fun v wx => v = .int .i64 (j : Int) ∧ w4 = wx)
    case first =>
      have hne : ¬ ((m : Int) + 1 = 0) := by omega
      go_wp2_with fail
      go_meet
      case rel => exact ⟨by rw [hmod], rfl⟩
    case rest =>
    obtain ⟨rfl, rfl⟩ := hcut
    clear hmod HJ
    have HN1 := Lib.hid (hk_new H4.out.1 100000 (by decide) (by decide))
    go_upto_region 9 with (go_at_call 7; refine HN1.out.mono ?_; rintro e w5 ⟨bd, rfl, h5⟩; have H5 := Lib.hid (h5.row H4.out); clear h5)
    clear HN1 H4
    have HN2 := Lib.hid (hk_new H5.out.1 100000 (by decide) (by decide))
    go_upto_region 10 with (first
      | (go_at_call 7; refine HN2.out.mono ?_; rintro e w6 ⟨be, rfl, h6⟩; have H6 := Lib.hid (h6.row H5.out); have HO1 := Lib.hid (hk_open H6.out.1 aN aN_ok); clear h6)
      | (go_at_call 8; refine HO1.out.mono ?_; rintro e w7 ⟨es, rfl, h7⟩; have H7 := Lib.hid (h7.row H6.out).swap; clear h7))
    clear HN2 H5 H6 HO1
    have HO2 := Lib.hid (hk_open H7.out.1 aN aN_ok)
    go_upto_region 13 with (go_at_call 8; refine HO2.out.mono ?_; rintro e w8 ⟨ts, rfl, h8⟩; have H8 := Lib.hid (show RowK w w8 Y3 [(be, ⟨[(aN, [])], Int.toNat 100000, none⟩, [(es, aN, [])]), (bd, ⟨[(aN, [])], Int.toNat 100000, none⟩, [(ts, aN, [])])] X3 ct from (h8.row H7.out).swap); clear h8)
    clear HO2 H7
    have hDo := rdo_any none X3 0 c3 [] ct w8 (nil_row w8) H8.out.2.1 (Nat.le_refl _) (Nat.zero_le _) (by have := HCf.out.2; simp; omega)
    rw [← HM.out] at hDo
    obtain ⟨L, hL⟩ : ∃ L, L = doW [] ct := ⟨_, rfl⟩
    rw [← hL] at hDo
    have HL := Lib.hid hL
    have HL5 := Lib.hid (show L.length ≤ 5 ∧ RiseW L by
      rw [hL]
      have h1 := doW_length [] ct
      have h2 := HCf.out.2
      exact ⟨by simp only [List.length_nil] at h1; omega, rise_do ct List.Pairwise.nil⟩)
    have HDo := Lib.hid hDo
    clear hDo hL
    go_upto_region 14 with (go_at_call 12; refine HDo.out.mono ?_; rintro e w9 ⟨Z, cZ, rfl, -, -, k3, k4, k5⟩; have H9 := Lib.hid (r2_do H8.out k4 k3 k5); clear k3 k4 k5)
    clear HDo H8
    generalize (fun k => Y3 k ∨ (w8.heap.size ≤ k ∧ k < w9.heap.size)) = Y5 at *
    obtain ⟨nL, hnL⟩ : ∃ nL, nL = L.length := ⟨_, rfl⟩
    have HNL := Lib.hid hnL
    rw [← hnL]
    clear hnL
    have HWs := Lib.hid (show (∀ l : List Wr, (∀ x ∈ l, x ∈ ct) → l.length ≤ 5 → costW l ≤ 2000 ∧ l.all mayW = true) from fun l hl h5 => by
      have h1 := cost_few (l := l) fun x hx => HCf.out.1 x (hl x hx)
      exact ⟨by omega, List.all_eq_true.2 fun x hx => List.all_eq_true.1 HMm.out.symm x (hl x hx)⟩)
    have hLd : doW (doW [] (ct.take j)) (ct.drop j) = L := by rw [← doW_append, List.take_append_drop, HL.out]
    have HLd := Lib.hid hLd
    have hc1 := HWs.out ct (fun _ h => h) HCf.out.2
    have hl2 : (ct.take j).length = j := by rw [List.length_take]; have := HM.out; omega
    have hl3 : (ct.drop j).length = m - j := by rw [List.length_drop]; have := HM.out; omega
    have hc2 := HWs.out (ct.take j) (fun x h => List.mem_of_mem_take h) (by omega)
    have hc3 := HWs.out (ct.drop j) (fun x h => List.mem_of_mem_drop h) (by omega)
    have hc4 := (HWs.out (doW [] (ct.take j)) (fun x h => by
      rcases mem_do h with h | h
      · cases h
      · exact List.mem_of_mem_take h) (by have := doW_length [] (ct.take j); simp only [List.length_nil] at this; omega)).1
    have hA := r2_apply H9.out X3 m c3 ct H9.out.1.2.1 H9.out.1.2.2 HM.out (by omega) (by rw [show Int.toNat 100000 = 100000 from rfl]; omega) hc1.2
    rw [← HL.out] at hA
    have HA := Lib.hid hA
    have HB := Lib.hid (fun W q u (h : R2 w W Y5 [(be, ⟨[(aN, L)], q, u⟩, [(es, aN, L)]), (bd, ⟨[(aN, [])], Int.toNat 100000, none⟩, [(ts, aN, [])])] X3 ct Z L) => r2_apply h.swap X3 j c3 (ct.take j) (h.1.2.1.take j) h.1.2.2 hl2.symm (by omega) (by rw [show Int.toNat 100000 = 100000 from rfl]; omega) hc2.2)
    obtain ⟨L1, hL1⟩ : ∃ L1, L1 = doW [] (ct.take j) := ⟨_, rfl⟩
    rw [← hL1] at HB hLd hc4
    have HC := Lib.hid (fun W (q q' : Nat) u u' (hq : Int.toNat 100000 ≤ q + costW (ct.take j)) (h : R2 w W Y5 [(bd, ⟨[(aN, L1)], q, u⟩, [(ts, aN, L1)]), (be, ⟨[(aN, L)], q', u'⟩, [(es, aN, L)])] X3 ct Z L) => r2_compact h (by rw [show Int.toNat 100000 = 100000 from rfl] at hq; omega))
    have hD0 := fun W (q q' : Nat) u u' (V : Option Addr) (cv mj : Nat) (hmj : mj = m - j) (hV : WrIn W V (ct.drop j)) (hv : Beside w Y5 V) (hq : Int.toNat 100000 ≤ q + costW (ct.take j)) (h : R2 w W Y5 [(bd, ⟨[(aN, L1)], q - costW L1, u⟩, [(ts, aN, L1)]), (be, ⟨[(aN, L)], q', u'⟩, [(es, aN, L)])] X3 ct Z L) => r2_apply h V mj cv (ct.drop j) hV hv (hmj.trans hl3.symm) (by omega) (by rw [show Int.toNat 100000 = 100000 from rfl] at hq; omega) hc3.2
    rw [hLd] at hD0
    have HD := Lib.hid hD0
    clear hD0 hA hL1
    clear hc1 hc2 hc3 hc4 hl2 hl3 hLd HWs
    have hj0 : (0 : Int) ≤ (j : Int) := by omega
    have hjm' : (j : Int) ≤ (m : Int) := by omega
    have hmc : m ≤ c3 := by rw [HM.out]; exact HC3.out.1
    have hcl : c3 ≤ 9223372036854775807 := HC3.out.2
    have hjc : (j : Int) ≤ (c3 : Int) := by omega
    go_cut [82] from 58 to 82 (fun v wx => v = .bool false ∧ ∃ q u q' u', R2 w wx Y5 [(bd, ⟨[(aN, L)], q, u⟩, [(ts, aN, L)]), (be, ⟨[(aN, L)], q', u'⟩, [(es, aN, L)])] X3 ct Z L)
    case first =>
      cases X3 with
      | none =>
        have hc0 : c3 = 0 := HNo.out rfl
        subst hc0
        have hm0 : m = 0 := by omega
        subst hm0
        have hj00 : j = 0 := by omega
        subst hj00
        have HV := Lib.hid (fun W (_ : WrIn W none ct) => And.intro (show WrIn W none (ct.drop 0) by
          rw [List.eq_nil_of_length_eq_zero HM.out.symm]; exact nil_row W) (show Beside w Y5 none from fun a ha => by cases ha))
        go_wp2_with (first
          | (go_at_call 11; refine HA.out.mono ?_; rintro e w10 ⟨rfl, q1, u1, -, h10⟩; have H10 := Lib.hid h10; clear h10 HA)
          | (go_at_call 11; refine (HB.out _ _ _ H10.out).mono ?_; rintro e w11 ⟨rfl, q2, u2, hq2, h11⟩; have H11 := Lib.hid h11; have HQ2 := Lib.hid hq2; clear h11 hq2 HB)
          | (go_at_call 13; refine (HC.out _ _ _ _ _ HQ2.out H11.out).mono ?_; rintro e w12 ⟨rfl, h12⟩; have H12 := Lib.hid h12; clear h12 HC)
          | (go_at_call 11; refine (HD.out _ _ _ _ _ _ _ _ (by first | rfl | omega) (HV.out _ H12.out.1.2.1).1 (HV.out _ H12.out.1.2.1).2 HQ2.out H12.out).mono ?_; rintro e w13 ⟨rfl, q3, u3, -, h13⟩; have H13 := Lib.hid h13; clear h13))
        go_meet
        case rel => exact ⟨rfl, _, _, _, _, H13.out⟩
      | some ad =>
        have HV0 := Lib.hid (show Beside w Y5 (some ad) from H9.out.1.2.2)
        by_cases hje : j = c3
        · have hm0 : m = j := by omega
          subst hm0
          subst hje
          have HV := Lib.hid (fun W (_ : WrIn W (some ad) ct) => And.intro (show WrIn W (some ad) (ct.drop m) by
            rw [List.drop_eq_nil_of_le (by rw [← HM.out]; exact Nat.le_refl _)]; exact fun i t ht => by simp at ht) HV0.out)
          go_wp2_with (first
            | (go_at_call 11; refine HA.out.mono ?_; rintro e w10 ⟨rfl, q1, u1, -, h10⟩; have H10 := Lib.hid h10; clear h10 HA)
            | (go_at_call 11; refine (HB.out _ _ _ H10.out).mono ?_; rintro e w11 ⟨rfl, q2, u2, hq2, h11⟩; have H11 := Lib.hid h11; have HQ2 := Lib.hid hq2; clear h11 hq2 HB)
            | (go_at_call 13; refine (HC.out _ _ _ _ _ HQ2.out H11.out).mono ?_; rintro e w12 ⟨rfl, h12⟩; have H12 := Lib.hid h12; clear h12 HC)
            | (go_at_call 11; refine (HD.out _ _ _ _ _ _ _ _ (by first | rfl | omega) (HV.out _ H12.out.1.2.1).1 (HV.out _ H12.out.1.2.1).2 HQ2.out H12.out).mono ?_; rintro e w13 ⟨rfl, q3, u3, -, h13⟩; have H13 := Lib.hid h13; clear h13))
          go_meet
          case rel => exact ⟨rfl, _, _, _, _, H13.out⟩
        · have hjl : j < c3 := by omega
          have hjl' : (j : Int) < (c3 : Int) := by omega
          have HV := Lib.hid (fun W (h : WrIn W (some ad) ct) => And.intro (h.drop j) (show Beside w Y5 (some (ad.add (j * 3))) from fun a ha => by
            cases ha
            rw [addr_add_block]
            exact HV0.out ad rfl))
          go_wp2_with (first
            | (go_at_call 11; refine HA.out.mono ?_; rintro e w10 ⟨rfl, q1, u1, -, h10⟩; have H10 := Lib.hid h10; clear h10 HA)
            | (go_at_call 11; refine (HB.out _ _ _ H10.out).mono ?_; rintro e w11 ⟨rfl, q2, u2, hq2, h11⟩; have H11 := Lib.hid h11; have HQ2 := Lib.hid hq2; clear h11 hq2 HB)
            | (go_at_call 13; refine (HC.out _ _ _ _ _ HQ2.out H11.out).mono ?_; rintro e w12 ⟨rfl, h12⟩; have H12 := Lib.hid h12; clear h12 HC)
            | (go_at_call 11; refine (HD.out _ _ _ _ _ _ _ _ (by first | rfl | omega) (HV.out _ H12.out.1.2.1).1 (HV.out _ H12.out.1.2.1).2 HQ2.out H12.out).mono ?_; rintro e w13 ⟨rfl, q3, u3, -, h13⟩; have H13 := Lib.hid h13; clear h13))
          go_meet
          case rel => exact ⟨rfl, _, _, _, _, H13.out⟩
    case rest =>
    obtain ⟨rfl, q, u, q', u', h13⟩ := hcut
    have H13 := Lib.hid h13.2
    have HG := Lib.hid (And.intro HNL.out (And.intro HL5.out.2 HL5.out.1))
    clear h13 H9 HA HB HC HD HCf HM HMm HNo HC3 HLd HL hj0 hjm' hmc hcl hjc hm5 hy63 hjm HNL HL5
    have HO := Lib.hid (hk_open H13.out.1 aN aN_ok)
    rw [liesAt_one, open_one] at HO
    go_upto_region 17 with (go_at_call 8; refine HO.out.mono ?_; rintro e w14 ⟨us, rfl, h14⟩; have H14 := Lib.hid (show RowK w w14 Y5 [(be, ⟨[(aN, L)], q', u'⟩, [(es, aN, L)]), (bd, ⟨[(aN, L)], q, none⟩, [(ts, aN, L), (us, aN, L)])] Z L from (h14.row H13.out).swap); clear h14)
    clear HO H13
    have HL1 := Lib.hid (like14_any H14.out.1 (i0 := 0) rfl Z nL cZ HG.out.1 H14.out.2.1 H14.out.2.2 HG.out.2.1 (by have := HG.out.2.2; omega))
    have HL2 := Lib.hid (fun w' (h : RowK w w' Y5 [(bd, ⟨[(aN, L)], q, none⟩, [(ts, aN, L), (us, aN, L)]), (be, ⟨[(aN, L)], q', u'⟩, [(es, aN, L)])] Z L) => like14_any h.1 (i0 := 0) rfl Z nL cZ HG.out.1 h.2.1 h.2.2 HG.out.2.1 (by have := HG.out.2.2; omega))
    have HL3 := Lib.hid (fun w' (h : RowK w w' Y5 [(bd, ⟨[(aN, L)], q, none⟩, [(ts, aN, L), (us, aN, L)]), (be, ⟨[(aN, L)], q', u'⟩, [(es, aN, L)])] Z L) => like14_any h.1 (i0 := 1) rfl Z nL cZ HG.out.1 h.2.1 h.2.2 HG.out.2.1 (by have := HG.out.2.2; omega))
    go_wp2_with (first
      | (go_at_call 14; refine HL1.out.mono ?_; rintro e w15 ⟨rfl, h15⟩; have H15 := Lib.hid (h15.row H14.out).swap; clear h15 HL1)
      | (go_at_call 14; refine (HL2.out _ H15.out).mono ?_; rintro e w16 ⟨rfl, h16⟩; have H16 := Lib.hid (h16.row H15.out); clear h16 HL2)
      | (go_at_call 14; refine (HL3.out _ H16.out).mono ?_; rintro e w17 ⟨rfl, h17⟩; have H17 := Lib.hid h17.1.below; clear h17)
      | (go_at_call 16; refine (lives14 _).mono ?_; rintro e w18 ⟨rfl, h18⟩; have H18 := Lib.hid h18; clear h18))
    go_ret
    exact ⟨by first | rfl | simp, H17.out.trans (H18.out.mono H17.out.size)⟩
end Go.Proofs.YtmblbogpkdkncaaGreat
