/- The reference's calls over what a law of stage 10 holds. The walk of ProofProofs. How a law ends: it is true, and nothing that was there has changed; its arguments read again. How a card on peaks ends: the library's table out of what the row lists; a world for the witness. How a card on peaks of hashes ends: all tables out of what the row lists. A list of parts that came in, opened. -/
import Derived.Test.YtggjofhhaokpcaaDoorT10Lives
import Derived.Test.YtggjofhhaokpcaaDoorMWords
import Derived.Test.YtggjofhhaokpcaaDoorRows
import Derived.Deep.DeepHandedRow
import Derived.ChangeMaps5
import Derived.Test.YtggjofhhaokpcaaDoorMT9NumM
import Derived.Test.YtggjofhhaokpcaaDoorCards
import Derived.Test.YtggjofhhaokpcaaDoorTie
import Derived.Stop.LaidErr
import Derived.Lib.LaidTab
import Derived.Test.YtggjofhhaokpcaaDoorMP9HashJ
import Derived.Lib.SmallJoins
import Derived.Deep.Matrix
namespace Go.Proofs.YtggjofhhaokpcaaDoor
open Go.RowKit

section
variable {w W W' : World} {ss rs : List (Value × List ByteArray)}
theorem has_lives (h : Has w W ss rs) : Calls Tryd.prog 13 #[] W (HasP w ss rs (.bool true)) :=
  (lives_any W h.2.1).mono fun _ _ k => ⟨k.1, h.on k.2⟩
/-- What a call hands out that makes a row. -/
def HasL (w : World) (ss rs : List (Value × List ByteArray)) (ps : List ByteArray) (e : Ending) (w' : World) : Prop := ∃ Y k q, e = .returned (.slice Y k q) ∧ k = ps.length ∧ k ≤ q ∧ q ≤ maxLen ∧ Has w w' ss ((.slice Y k q, ps) :: rs)
theorem hasL_of (h : Has w W ss rs) {e : Ending} {w' : World} {ps : List ByteArray} (k : RowP W ps e w') : HasL w ss rs ps e w' := by
  obtain ⟨Y, n, q, he, ha⟩ := k
  obtain ⟨h1, h2, h3, -⟩ := ha.ins
  exact ⟨Y, n, q, he, h1, h2, h3, h.row ha⟩
theorem Has.strs (h : Has w W ss rs) {Y : Option Addr} {k q : Nat} {ps : List ByteArray} (hr : (.slice Y k q, ps) ∈ rs) : StrsIn W Y ps := by
  have ha : AccS w W (.slice Y k q) ps := h.2.2.2 _ hr
  exact ha.ins.2.2.2
theorem has_hashes (h : Has w W ss rs) (A : Option Addr) (cA most : Nat) (ps : List (List Int)) (hc : ps.length ≤ cA) (hm : cA ≤ maxLen) (hp : PartsIn W A ps) (hM : most ≤ 100) :
    Calls Tryd.prog 10 #[.slice A ps.length cA, .int .i64 (most : Int)] W (HasL w ss rs (hs20 (ps.take most))) :=
  (rhashes_any A cA most ps W hc hm hp hM).mono fun _ _ k => hasL_of h k
theorem has_few (h : Has w W ss rs) (A : Option Addr) (cA n : Nat) (l : List ByteArray) (hn : n = l.length) (hc : n ≤ cA) (hm : cA ≤ maxLen) (hl : StrsIn W A l) (hz : ∀ s ∈ l, s.size ≤ 9223372036854775807) :
    Calls Tryd.prog 16 #[.slice A n cA] W (HasL w ss rs (fewL l)) :=
  (few_any A cA n l W hn hc hm hl hz).mono fun _ _ k => hasL_of h k
theorem has_proof (h : Has w W ss rs) (A : Option Addr) (c n m : Nat) (b : Bool) (l : List ByteArray) (hn : n = l.length) (hm2 : n ≤ 1000) (h1 : 1 ≤ m) (hm : m ≤ n) (hl : StrsIn W A l) (hc : n ≤ c) (hcm : c ≤ maxLen) (hs : ∀ s ∈ l, s.size ≤ 400) :
    Calls Tryd.prog 15 #[.int .i64 (m : Int), .slice A n c, .bool b] W (HasL w ss rs (proofB m l b)) := by
  subst hn
  exact (rproof_n l.length l A c m b W ⟨Nat.le_refl _, hm2⟩ h1 hm hl hc hcm hs).mono fun _ _ k => hasL_of h k
theorem has_long (h : Has w W ss rs) (m n : Nat) (hm : m ≤ 2000000) (hn : n ≤ 2000000) : Calls Tryd.prog 18 #[.int .i64 (m : Int), .int .i64 (n : Int)] W (HasP w ss rs (.int .i64 (longOf m n : Int))) :=
  (rlong_n n m n W ⟨Nat.le_refl _, hn⟩ hm).mono fun _ _ k => ⟨k.1, k.2 ▸ h⟩
theorem has_longp (h : Has w W ss rs) (m n : Nat) (b : Bool) (h1 : 1 ≤ m) (hm : m ≤ n) (hn : n ≤ 2000000) : Calls Tryd.prog 21 #[.int .i64 (m : Int), .int .i64 (n : Int), .bool b] W (HasP w ss rs (.int .i64 (longpOf m n b : Int))) :=
  (rlongp_n n m n b W ⟨Nat.le_refl _, hn⟩ h1 hm).mono fun _ _ k => ⟨k.1, k.2 ▸ h⟩
theorem has_climb (h : Has w W ss rs) (x : ByteArray) (m n : Nat) (p : List ByteArray) (A : Option Addr) (c q : Nat) (hm : m ≤ 2000000) (hn : n ≤ 2000000) (hq : q = p.length) (hlen : q = longOf m n) (hl : StrsIn W A p) (hc : q ≤ c) (hcm : c ≤ maxLen) (hx : x.size ≤ 400) (hs : ∀ s ∈ p, s.size ≤ 400) :
    Calls Tryd.prog 19 #[.string x, .int .i64 (m : Int), .int .i64 (n : Int), .slice A q c] W (HasP w ss rs (.string (climbB x m n p))) :=
  (rclimb_n n x m n p A c q W ⟨Nat.le_refl _, hn⟩ hm hq.symm hlen hl hc hcm hx hs).mono fun _ _ k => ⟨k.1, h.on k.2⟩
theorem has_old (h : Has w W ss rs) (m n : Nat) (p : List ByteArray) (x : ByteArray) (b : Bool) (A : Option Addr) (c q : Nat) (h1 : 1 ≤ m) (hm : m ≤ n) (hn : n ≤ 2000000) (hq : q = p.length) (hlen : q = longpOf m n b) (hl : StrsIn W A p) (hc : q ≤ c) (hcm : c ≤ maxLen) (hx : x.size ≤ 400) (hs : ∀ s ∈ p, s.size ≤ 400) :
    Calls Tryd.prog 22 #[.int .i64 (m : Int), .int .i64 (n : Int), .slice A q c, .string x, .bool b] W (HasP w ss rs (.string (oldB m n p x b))) :=
  (rold_n n m n p x b A c q W ⟨Nat.le_refl _, hn⟩ h1 hm hq.symm hlen hl hc hcm hx hs).mono fun _ _ k => ⟨k.1, h.on k.2⟩
theorem has_new (h : Has w W ss rs) (m n : Nat) (p : List ByteArray) (x : ByteArray) (b : Bool) (A : Option Addr) (c q : Nat) (h1 : 1 ≤ m) (hm : m ≤ n) (hn : n ≤ 2000000) (hq : q = p.length) (hlen : q = longpOf m n b) (hl : StrsIn W A p) (hc : q ≤ c) (hcm : c ≤ maxLen) (hx : x.size ≤ 400) (hs : ∀ s ∈ p, s.size ≤ 400) :
    Calls Tryd.prog 23 #[.int .i64 (m : Int), .int .i64 (n : Int), .slice A q c, .string x, .bool b] W (HasP w ss rs (.string (newB m n p x b))) :=
  (rnew_n n m n p x b A c q W ⟨Nat.le_refl _, hn⟩ h1 hm hq.symm hlen hl hc hcm hx hs).mono fun _ _ k => ⟨k.1, h.on k.2⟩
theorem has_rroot (h : Has w W ss rs) (A : Option Addr) (c n : Nat) (l : List ByteArray) (hn : n = l.length) (hm : n ≤ 1000) (hl : StrsIn W A l) (hc : n ≤ c) (hcm : c ≤ maxLen) (hs : ∀ s ∈ l, s.size ≤ 400) : Calls Tryd.prog 27 #[.slice A n c] W (HasP w ss rs (.string (rootB l))) := by
  subst hn
  exact (rroot_n l.length l A c W ⟨Nat.le_refl _, by omega⟩ hl hc hcm hs).mono fun _ _ k => ⟨k.1, h.on k.2⟩
theorem has_round (h : Has w W ss rs) (n : Int) (most : Nat) (hn : M63 n) (h0 : 0 < most) (hm : most ≤ 1000) : Calls Tryd.prog 24 #[.int .i64 n, .int .i64 (most : Int)] W (HasP w ss rs (.int .i64 (roundN n most : Int))) :=
  (round_any n most W hn h0 hm).mono fun _ _ k => ⟨k.1, k.2 ▸ h⟩
end
theorem hs20_400 (ps : List (List Int)) : ∀ s ∈ hs20 ps, s.size ≤ 400 := fun s h => by have := hs20_32 ps s h; omega
end Go.Proofs.YtggjofhhaokpcaaDoor
namespace Go.Proofs.YtggjofhhaokpcaaDoor
open Go.RowKit

set_option maxRecDepth 100000 in
set_option maxHeartbeats 4000000 in
theorem proofs_law {w : World} (hT : TabsP w) (A : Option Addr) (cA : Nat) (ps : List (List Int)) (m n : Int) (hp : PartsIn w A ps) (hc : ps.length ≤ cA) (hcm : cA ≤ maxLen) (hm : -9223372036854775808 ≤ m ∧ m ≤ 9223372036854775807) (hn : -9223372036854775808 ≤ n ∧ n ≤ 9223372036854775807) :
    Calls Tryd.prog 3 #[.slice A ps.length cA, .int .i64 m, .int .i64 n] w fun e w' => e = .returned (.bool true) ∧ Below w.heap.size w w' := by
  obtain ⟨l, hl⟩ : ∃ l, l = hs20 (ps.take 20) := ⟨_, rfl⟩
  have hll : l.length ≤ 20 := by rw [hl, hs20_len]; simp; omega
  have hls : ∀ s ∈ l, s.size ≤ 400 := by rw [hl]; exact hs20_400 _
  have HH := Lib.hid (has_hashes (Has.start hT) A cA 20 ps hc hcm hp (by decide))
  rw [← hl] at HH
  have HLS := Lib.hid (And.intro hll hls)
  have HM := Lib.hid (And.intro hm hn)
  clear hl hll hls hp hc hcm hT
  generalize ps.length = np at *
  go_enter Tryd.func3, Tryd.ntmps3
  go_upto_region 2 with (go_at_call 10; refine HH.out.mono ?_; rintro e w1 ⟨Y, k, c, rfl, hk, hkc, hcm, h1⟩; have H1 := Lib.hid h1; clear h1; have HK := Lib.hid (And.intro hk (And.intro hkc hcm)); clear hk hkc hcm)
  clear HH
  go_upto_region 5 with (go_at_call 11; refine (has_of H1.out Y k c l (H1.out.strs (.head _)) HK.out.1 (by have := HK.out.1; have := HLS.out.1; omega) HK.out.2.1 HK.out.2.2 HLS.out.2).mono ?_; rintro e w2 ⟨t, u, rfl, h2⟩; have H2 := Lib.hid h2; clear h2)
  clear H1
  obtain ⟨n', hn'⟩ : ∃ n' : Int, n' = if (k : Int) < n ∧ n ≤ 1048576 then (k : Int) else n := ⟨_, rfl⟩
  go_cut [25] (fun v wx => v = .bool (decide ((k : Int) < n ∧ n ≤ 1048576)) ∧ w2 = wx)
  case first =>
    clear hn'
    by_cases q1 : (k : Int) < n
    · by_cases q2 : n ≤ 1048576
      · go_wp2_with fail
        go_meet
        case rel => exact ⟨by rw [decide_eq_true (And.intro q1 q2)], rfl⟩
      · go_wp2_with fail
        go_meet
        case rel => exact ⟨by rw [decide_eq_false (p := (k : Int) < n ∧ n ≤ 1048576) (by omega)], rfl⟩
    · go_wp2_with fail
      go_meet
      case rel => exact ⟨by rw [decide_eq_false (p := (k : Int) < n ∧ n ≤ 1048576) (by omega)], rfl⟩
  case rest =>
   obtain ⟨rfl, rfl⟩ := hcut
   go_upto_if 25 with (fail)
   go_cut [2] (fun v wx => v = .int .i64 n' ∧ w2 = wx)
   case first =>
    by_cases q : (k : Int) < n ∧ n ≤ 1048576
    · rw [if_pos q] at hn'
      have HN := Lib.hid hn'
      clear hn'
      rw [decide_eq_true q]
      go_wp2_with fail
      go_meet
      case rel => exact ⟨by rw [HN.out], rfl⟩
    · rw [if_neg q] at hn'
      have HN := Lib.hid hn'
      clear hn'
      rw [decide_eq_false q]
      go_wp2_with fail
      go_meet
      case rel => exact ⟨by rw [HN.out], rfl⟩
   case rest =>
    obtain ⟨rfl, rfl⟩ := hcut
    have hkl := HK.out.1
    have hn3 : n' ≤ (k : Int) ∨ 1048576 < n' := by
      rw [hn']
      split <;> omega
    have hM : M63 n' := by
      have := HM.out.2
      have := HLS.out.1
      rw [hn']
      unfold M63
      split <;> omega
    have hC := has_cons H2.out (.iface t u) l (.head _) m n' (by unfold badC; omega) HM.out.1 hM
    have HC := Lib.hid hC
    have HN3 := Lib.hid hn3
    clear hn' hkl hn3 hC
    go_upto_region 8 with (go_at_call 12; refine HC.out.mono ?_; rintro e w3 ⟨Y3, k3, c3, rfl, hk3, hkc3, hcm3, h3⟩; have H3 := Lib.hid h3; clear h3; have HK3 := Lib.hid (And.intro hk3 (And.intro hkc3 hcm3)); clear hk3 hkc3 hcm3)
    clear HC
    by_cases hb : badC m n'
    · rw [consE_bad hb]
      have hz : k3 = 0 := by have := HK3.out.1; rw [consL_bad hb] at this; exact this
      subst hz
      clear HN3 HK3
      by_cases q1 : n' < 0
      · go_wp2_with (go_at_call 13; refine (has_lives H3.out).mono ?_; rintro e w4 ⟨rfl, h4⟩; have H4 := Lib.hid h4; clear h4)
        go_ret
        exact ⟨by first | rfl | simp, H4.out.1⟩
      · by_cases q2 : 1048576 < n'
        · go_wp2_with (go_at_call 13; refine (has_lives H3.out).mono ?_; rintro e w4 ⟨rfl, h4⟩; have H4 := Lib.hid h4; clear h4)
          go_ret
          exact ⟨by first | rfl | simp, H4.out.1⟩
        · by_cases q3 : m < 0
          · go_wp2_with (go_at_call 13; refine (has_lives H3.out).mono ?_; rintro e w4 ⟨rfl, h4⟩; have H4 := Lib.hid h4; clear h4)
            go_ret
            exact ⟨by first | rfl | simp, H4.out.1⟩
          · have q4 : n' < m := by unfold badC at hb; omega
            go_wp2_with (go_at_call 13; refine (has_lives H3.out).mono ?_; rintro e w4 ⟨rfl, h4⟩; have H4 := Lib.hid h4; clear h4)
            go_ret
            exact ⟨by first | rfl | simp, H4.out.1⟩
    · have q : ¬ n' < 0 ∧ ¬ 1048576 < n' ∧ ¬ m < 0 ∧ ¬ n' < m := by unfold badC at hb; omega
      obtain ⟨q1, q2, q3, q4⟩ := q
      rw [consE_ok hb]
      by_cases h0 : m = 0
      · subst h0
        have hz : k3 = 0 := by have := HK3.out.1; rw [consL_zero] at this; exact this
        subst hz
        clear HN3 HK3 hb
        go_wp2_with (go_at_call 13; refine (has_lives H3.out).mono ?_; rintro e w4 ⟨rfl, h4⟩; have H4 := Lib.hid h4; clear h4)
        go_ret
        exact ⟨by first | rfl | simp, H4.out.1⟩
      · obtain ⟨nn, rfl⟩ : ∃ nn : Nat, n' = (nn : Int) := ⟨n'.toNat, by omega⟩
        obtain ⟨mm, rfl⟩ : ∃ mm : Nat, m = (mm : Int) := ⟨m.toNat, by omega⟩
        have hnk : nn ≤ k := by have := HN3.out; omega
        have hCL : consL l (mm : Int) (nn : Int) = proofB mm (l.take nn) true := by rw [consL_ok hb h0]; rfl
        rw [hCL] at H3 HK3
        obtain ⟨g, rfl⟩ := H3.out.form (.tail _ (.head _)) (by have := HK.out.1; omega)
        have htl : nn = (l.take nn).length := by have := HK.out.1; simp; omega
        have hlen : (proofB mm (l.take nn) true).length ≤ 100000 := by
          have h1 : (proofB mm (l.take nn) true).length ≤ (l.take nn).length := proof_len_le _ _ (by omega) (by omega)
          have := HLS.out.1
          have h2 : (l.take nn).length ≤ l.length := by simp; omega
          omega
        have HP := Lib.hid (has_proof H3.out (some ⟨g, 0, none⟩) c nn mm true (l.take nn) htl (by have := HLS.out.1; have := HK.out.1; omega) (by omega) (by omega) ((H3.out.strs (.tail _ (.head _))).take nn) (by have := HK.out.2.1; omega) HK.out.2.2 (fun s hs => HLS.out.2 s (List.mem_of_mem_take hs)))
        have HE := Lib.hid hlen
        have hnc : (nn : Int) ≤ (c : Int) := by have := HK.out.2.1; omega
        have hc63 : c ≤ 9223372036854775807 := HK.out.2.2
        have h0i : ((mm : Int) == 0) = false := by rw [beq_eq_false_iff_ne]; exact h0
        clear hb hnk hCL htl hlen HN3
        go_wp2_with (first
          | (go_at_call 15; refine HP.out.mono ?_; rintro e w4 ⟨Y4, k4, c4, rfl, -, -, -, h4⟩; have H4 := Lib.hid h4; clear h4)
          | (go_at_call 14; refine (has_same H4.out Y3 Y4 k3 k4 c3 c4 _ _ (.tail _ (.head _)) (.head _) HE.out rfl).mono ?_; rintro e w5 ⟨rfl, h5⟩; have H5 := Lib.hid h5; clear h5)
          | (go_at_call 13; refine (has_lives H5.out).mono ?_; rintro e w6 ⟨rfl, h6⟩; have H6 := Lib.hid h6; clear h6))
        go_ret
        exact ⟨by first | rfl | simp, H6.out.1⟩
end Go.Proofs.YtggjofhhaokpcaaDoor
namespace Go.Proofs.YtggjofhhaokpcaaDoor
open Go.ChangeShapes Go.WideShapes Go.ChangeAt Go.RowKit

theorem ownNone : ownKnob Tryd.prog.godebug = none := by kernel_rfl
theorem laidOut' : laidOutB Tryd.prog = true := by kernel_rfl
/-- Arguments of any number read again in a world in which all that was there is there. -/
theorem args_stay {H : Type} {enc : TypeId × Value → H} {W W' : World} {sp : Nat → Bool} : ∀ (ts : List TypeId) (vs : List Value) (ds : List (DataW H)) (p : List MemPlace),
    (∀ t ∈ ts, Tryd.prog.readableRec t = true ∧ t < Tryd.prog.types.size) → DataW.TrodAll enc Tryd.prog W 0 (fun _ => true) true ts vs ds p → (∀ x ∈ p, W.sameAt W' x) → (∀ x ∈ p, sp x.block = true) → DataW.TrodAll enc Tryd.prog W' 0 sp true ts vs ds p
  | [], vs, ds, p, _, h, _, _ => by
    obtain ⟨rfl, rfl, rfl⟩ := trodAll_nil h
    exact trodAll_mk0
  | t :: ts, vs, ds, p, ht, h, hs, hsp => by
    obtain ⟨v0, vs0, d0, ds0, p0, q0, rfl, rfl, rfl, h0, r0⟩ := trodAll_cons h
    exact trodAll_cons_mk (WideElems.Trod_stays laidOut' (ht t (List.mem_cons_self ..)).1 (ht t (List.mem_cons_self ..)).2 h0 (fun x hx => hs x (List.mem_append_left _ hx)) (fun x hx => hsp x (List.mem_append_left _ hx)))
      (args_stay ts vs0 ds0 q0 (fun u hu => ht u (List.mem_cons_of_mem _ hu)) r0 (fun x hx => hs x (List.mem_append_right _ hx)) (fun x hx => hsp x (List.mem_append_right _ hx)))

set_option maxRecDepth 100000 in
/-- THE END OF A LAW: it is true; nothing that was there has changed. -/
theorem law_post {H : Type} {enc : TypeId × Value → H} {f : Func} {s : ChangeSpec} {handsOn again : Bool} {W W' : World} {args : Array Value} {ds : List (DataW H)} {before : List MemPlace}
    (hW : DataW.Whole enc Tryd.prog f.params.toList s.vars false W args.toList ds [] before) (hvars : s.vars = []) (ht : ∀ t ∈ f.params.toList, Tryd.prog.readableRec t = true ∧ t < Tryd.prog.types.size) (hr : f.resultTypes = #[4])
    (hf : s.fn H (ds ++ []) = { results := [.lit (.bool true)], args := ds, vars := [] }) (hb : Below W.heap.size W W') : s.post enc Tryd.prog f false true handsOn again W args (.bool true) W' := by
  have hW' := hW
  have hlt : ∀ x ∈ before, x.block < W.heap.size := fun x hx => hW'.lt x hx
  obtain ⟨p, q, hA, hV, rfl, hfz, hnd⟩ := hW
  rw [hvars] at hV
  obtain ⟨-, rfl⟩ := trodVars_none hV
  rw [List.append_nil] at hW' hlt hfz hnd
  have hsame : ∀ x ∈ p, W.sameAt W' x := fun x hx => hb.same (hlt x hx)
  have hargs : ∀ sp : Nat → Bool, (∀ x ∈ p, sp x.block = true) → DataW.TrodAll enc Tryd.prog W' 0 sp true f.params.toList args.toList ds p := fun sp hsp => args_stay _ _ _ _ ht hA hsame hsp
  have hres : ∀ (b : Nat) (sp : Nat → Bool) (hd : Bool), DataW.TrodAll enc Tryd.prog W' b sp hd f.resultTypes.toList ((Value.bool true).resultList f.resultTypes.size) [.lit (.bool true)] [] := fun b sp hd => by
    rw [hr]
    exact trodAll_cons_mk (shut_bool Tryd.underlying4 _) trodAll_mk0
  have hf' : s.fn H (ds ++ []) = _ := hf
  have hold : ∀ x ∈ p, (fun b => decide (b < W.heap.size)) x.block = true := fun x hx => by simpa using hlt x hx
  have hvar : ∀ sp : Nat → Bool, DataW.TrodVars enc Tryd.prog W' sp s.vars [] [] := fun sp => by rw [hvars]; rfl
  refine ⟨ds, [], p, [], p, [], hW', by rw [hf']; exact hres _ _ _, by rw [hf']; exact hargs _ hold, by rw [hf']; exact hvar _, World.keptBut_mono (fun x hx => ⟨hx, Or.inr (Or.inl hx)⟩) (hb.frame (· ∈ p)), fun _ => ⟨?_, [.lit (.bool true)] ++ ds, [], p, ⟨p, [], ?_, hvar _, by simp, ?_, fun h => by cases h⟩, ?_⟩⟩
  · exact ok_one hr rfl (okWide_bool_mk Tryd.underlying4 _)
  · rw [hr]
    exact trodAll_cons_mk (shut_bool Tryd.underlying4 _) (hargs _ (fun _ _ => rfl))
  · intro b off hx
    rw [hb.frozen (hlt _ hx)]
    exact hfz b off hx
  · exact fun x hx _ => hx

/-- A world for the witness, of a program of which nothing is listed. -/
noncomputable def plainWorld (os : Os) : World := World.holding Tryd.prog os ⟨#[], #[], []⟩
end Go.Proofs.YtggjofhhaokpcaaDoor
namespace Go.Proofs.YtggjofhhaokpcaaDoor
open Go.ChangeShapes Go.WideShapes Go.ChangeAt Go.RowKit

theorem gDe64 : Tryd.prog.globalNamed "math/bits.deBruijn64tab" = some 1 := by kernel_rfl
theorem gDeT : (Tryd.prog.globals[1]?).map (·.type) = some 114 := by kernel_rfl
theorem cellsDe : Tryd.prog.cellsOf 114 = 64 := by kernel_rfl
theorem cellsU8 : Tryd.prog.cellsOf 5 = 1 := by kernel_rfl
def deL : List Int := Lib.deBruijn64tab.map (fun n : Nat => (n : Int))
theorem deL_at : ∀ j, j < 64 → deL.getD j 0 = ((Lib.deBruijn64tab.getD j 0 : Nat) : Int) := by decide +kernel
theorem laid_de {H : Type} : (Rows.laid_math_bits_deBruijn64tab : DataW H) = Lib.tabData .u8 deL := rfl
theorem tab_of {rest : List (String × DataW Unit)} {W : World} (h : laidMet Tryd.prog (("math/bits.deBruijn32tab", Rows.laid_math_bits_deBruijn32tab) :: ("math/bits.deBruijn64tab", Rows.laid_math_bits_deBruijn64tab) :: rest) W) : Tab64 W := by
  have h1 : Lib.TabIs Tryd.prog W "math/bits.deBruijn64tab" .u8 deL := Lib.tabIs_of_head gDe64 gDeT Tryd.underlying114 Tryd.underlying5 cellsU8 cellsDe (laidMet.tail h)
  have c1 := fun i (hi : i < 64) => h1.cell gDe64 i hi
  exact ⟨World.block_lt_of_cell? _ _ (c1 0 (by omega)), fun j hj => (c1 j hj).trans (by rw [deL_at j hj])⟩
theorem tabs_of {W : World} (h : laidMet Tryd.prog [("math/bits.deBruijn32tab", Rows.laid_math_bits_deBruijn32tab), ("math/bits.deBruijn64tab", Rows.laid_math_bits_deBruijn64tab)] W) : Tab64 W := tab_of h

def leafs : Nat → DataW Unit → List Value
  | n + 1, .agg l => l.flatMap (leafs n)
  | _, .lit (.int k z) => [.int k z]
  | _, _ => []
/-- A block's cells, its type and marks as they are. -/
def layCells (vs : List Value) : Obj → Obj
  | .cells _ t frozen => .cells vs.toArray t frozen
  | o => o
/-- A world for the witness: what is listed holds what the program's text lays. -/
noncomputable def laidWorld (os : Os) : World :=
  let w0 := World.holding Tryd.prog os ⟨#[], #[], []⟩
  { w0 with
    heap := (((w0.heap.modify 0 (layCells (leafs 3 Rows.laid_math_bits_deBruijn32tab))).modify 1 (layCells (leafs 3 Rows.laid_math_bits_deBruijn64tab))).modify 2 (layCells (leafs 3 Rows.laid_pantile_digest_squareRoots))).modify 3 (layCells (leafs 3 Rows.laid_pantile_digest_cubeRoots)) }
end Go.Proofs.YtggjofhhaokpcaaDoor
namespace Go.Proofs.YtggjofhhaokpcaaDoor
open Go.ChangeShapes Go.WideShapes Go.ChangeAt Go.RowKit

theorem gSq : Tryd.prog.globalNamed "pantile/digest.squareRoots" = some 2 := by kernel_rfl
theorem gCu : Tryd.prog.globalNamed "pantile/digest.cubeRoots" = some 3 := by kernel_rfl
theorem gSqT : (Tryd.prog.globals[2]?).map (·.type) = some 117 := by kernel_rfl
theorem gCuT : (Tryd.prog.globals[3]?).map (·.type) = some 134 := by kernel_rfl
theorem cellsSq : Tryd.prog.cellsOf 117 = 8 := by kernel_rfl
theorem cellsCu : Tryd.prog.cellsOf 134 = 80 := by kernel_rfl
theorem cellsU64 : Tryd.prog.cellsOf 100 = 1 := by kernel_rfl
theorem laid_sq {H : Type} : (Rows.laid_pantile_digest_squareRoots : DataW H) = Lib.tabData .u64 sqL := rfl
theorem laid_cu {H : Type} : (Rows.laid_pantile_digest_cubeRoots : DataW H) = Lib.tabData .u64 cuL := rfl
theorem tabsH_of {W : World} (h : laidMet Tryd.prog [("math/bits.deBruijn32tab", Rows.laid_math_bits_deBruijn32tab), ("math/bits.deBruijn64tab", Rows.laid_math_bits_deBruijn64tab), ("pantile/digest.squareRoots", Rows.laid_pantile_digest_squareRoots), ("pantile/digest.cubeRoots", Rows.laid_pantile_digest_cubeRoots)] W) : TabsH W := by
  have h3 := laidMet.tail (laidMet.tail h)
  have h1 : Lib.TabIs Tryd.prog W "pantile/digest.squareRoots" .u64 sqL := Lib.tabIs_of_head gSq gSqT Tryd.underlying117 Tryd.underlying100 cellsU64 cellsSq h3
  have h2 : Lib.TabIs Tryd.prog W "pantile/digest.cubeRoots" .u64 cuL := Lib.tabIs_of_head gCu gCuT Tryd.underlying134 Tryd.underlying100 cellsU64 cellsCu (laidMet.tail h3)
  have c1 := fun i (hi : i < 8) => h1.cell gSq i hi
  have c2 := fun i (hi : i < 80) => h2.cell gCu i hi
  exact ⟨tab_of h, World.block_lt_of_cell? _ _ (c2 0 (by omega)), c1, c2⟩
end Go.Proofs.YtggjofhhaokpcaaDoor
namespace Go.Proofs.YtggjofhhaokpcaaDoor
open Go.ChangeShapes Go.WideShapes Go.ChangeAt Go.RowKit

theorem cellsSl : Tryd.prog.cellsOf 51 = 1 := by kernel_rfl
set_option maxRecDepth 100000 in
theorem open_parts {H : Type} {enc : TypeId × Value → H} {W : World} {base : Nat} {v : Value} {d : DataW H} {pl : List MemPlace} (hval : Value.okWide Tryd.prog W .any base 22 v)
    (h : DataW.Trod enc Tryd.prog W 0 (fun _ => true) true 22 v d pl) :
    ∃ (A : Option Addr) (c : Nat) (ps : List (List Int)), v = .slice A ps.length c ∧ ps.length ≤ c ∧ c ≤ maxLen ∧ PartsIn W A ps := by
  obtain ⟨a1, len, cap, rfl⟩ := okWide_slice Tryd.underlying22 hval
  obtain ⟨fuel, hf⟩ := h
  rcases Go.Deep.open_int_rows Tryd.underlying22 Tryd.underlying51 Tryd.underlying5 cellsSl cells5 hf with ⟨hcs, hx⟩ | ⟨a, len', cap', A, L, C, Z, hcs, _, hl, hm, hx, hrow⟩
  · simp [Value.cells] at hcs
    obtain ⟨rfl, rfl, rfl⟩ := hcs
    exact ⟨none, 0, [], rfl, by simp, by unfold maxLen; omega, fun i p hp => by simp at hp⟩
  · simp [Value.cells] at hcs
    obtain ⟨rfl, rfl, rfl⟩ := hcs
    refine ⟨some a, cap, (List.range len).map fun r => (Z r).take (L r), by simp, by simpa using hl, hm, fun i p hp => ?_⟩
    rw [List.getElem?_map] at hp
    obtain ⟨i', hi', rfl⟩ := Option.map_eq_some_iff.1 hp
    have hi : i < len := by have := (List.getElem?_eq_some_iff.1 hi').1; simpa using this
    rw [List.getElem?_range hi] at hi'
    cases hi'
    obtain ⟨h1, h2, h3, h4, h5, h6, h7⟩ := hrow i (by omega)
    have hlen : ((Z i).take (L i)).length = L i := by simp; omega
    refine ⟨a, A i, C i, rfl, (by have := World.block_lt_of_cell? _ _ h1; rwa [addr_add_block] at this), by rw [hlen]; exact h1, fun hp => ?_, fun e he => ?_, by rw [hlen]; exact h2, h3, h6⟩
    · cases hA : A i with
      | none => have := h6 hA; omega
      | some a' =>
        obtain ⟨_, h8⟩ := h7 a' hA
        refine ⟨a', rfl, World.block_lt_of_cell? _ _ (h8 0 (by omega)), fun j e he => ?_⟩
        have hj : j < ((Z i).take (L i)).length := (List.getElem?_eq_some_iff.1 he).1
        rw [hlen] at hj
        rw [List.getElem?_take_of_lt hj] at he
        rw [h8 j (by omega), List.getD_eq_getElem?_getD, he]
        rfl
    · have := h5 e (List.mem_of_mem_take he)
      simp [Lit.wf, IntKind.min, IntKind.max, IntKind.signed, IntKind.bits] at this
      omega
end Go.Proofs.YtggjofhhaokpcaaDoor
