/- The walk of TilesNode. How a law ends: it is true, and nothing that was there has changed; its arguments read again. How a card on peaks ends: the library's table out of what the row lists; a world for the witness. How a card on peaks of hashes ends: all tables out of what the row lists. -/
import Derived.Test.YtianflcfjaddlaaDoorMT12RNode
import Derived.Test.YtianflcfjaddlaaDoorWords
import Derived.Test.YtianflcfjaddlaaDoorRows
import Derived.Deep.DeepHandedRow
import Derived.ChangeMaps5
import Derived.Test.YtianflcfjaddlaaDoorMP9Bits
import Derived.Test.YtianflcfjaddlaaDoorCards
import Derived.Test.YtianflcfjaddlaaDoorTie
import Derived.Stop.LaidErr
import Derived.Lib.LaidTab
import Derived.Test.YtianflcfjaddlaaDoorMRangeLawB
namespace Go.Proofs.YtianflcfjaddlaaDoor
open Go.RowKit

set_option maxRecDepth 100000 in
set_option maxHeartbeats 4000000 in
theorem node_law {w : World} (hT : TabsH w) (X : Option Addr) (c : Nat) (us : List Int) (f m : Int) (hX : BytesIn w X c us) (hf : I63 f) (hm : I63 m) :
    Calls Tryd.prog 3 #[.slice X us.length c, .int .i64 f, .int .i64 m] w fun e w' => e = .returned (.bool true) ∧ Below w.heap.size w w' := by
  obtain ⟨n, hn⟩ : ∃ n, n = us.length := ⟨_, rfl⟩
  rw [← hn]
  obtain ⟨ds, hds⟩ : ∃ ds, ds = us.take 1280 := ⟨_, rfl⟩
  obtain ⟨nu, hnu⟩ : ∃ nu, nu = ds.length := ⟨_, rfl⟩
  have hl : nu ≤ 1280 := by rw [hnu, hds]; simp; omega
  have hD : BytesIn w X c ds := by rw [hds]; exact hX.take 1280
  have hcm : c ≤ 9223372036854775807 := hX.2.2.2.1
  have J0 := Lib.hid (show (¬ 1280 < n → nu = n) ∧ (1280 < n → nu = 1280 ∧ 1280 ≤ c ∧ ∃ ad, X = some ad) from ⟨fun h => by rw [hnu, hds]; simp; omega, fun h => ⟨by rw [hnu, hds]; simp; omega, by have := hX.2.2.1; omega, by
    obtain ⟨a, ha, _⟩ := hX.1 (by omega)
    exact ⟨a, ha⟩⟩⟩)
  have HD := Lib.hid (And.intro hD (And.intro hnu hT))
  have HI := Lib.hid (And.intro hf hm)
  clear hX hn hds hD hnu hT hf hm
  go_enter Tryd.func3, Tryd.ntmps3
  go_upto_if 14 with fail
  go_cut [0] from 12 to 17 (fun v wx => v = .slice X nu c ∧ w = wx)
  case first =>
    by_cases h20 : 1280 < n
    · have h20i : (1280 : Int) < (n : Int) := by omega
      obtain ⟨e0, hc6, ad', rfl⟩ := J0.out.2 h20
      have hc20 : (1280 : Int) ≤ (c : Int) := by omega
      go_wp2_with fail
      go_meet
      case rel => exact ⟨by rw [e0], rfl⟩
    · have h20i : ¬ (1280 : Int) < (n : Int) := by omega
      have e0 := J0.out.1 h20
      go_wp2_with fail
      go_meet
      case rel => exact ⟨by rw [e0], rfl⟩
  case rest =>
  obtain ⟨rfl, rfl⟩ := hcut
  clear J0
  obtain ⟨N, hN⟩ : ∃ N, N = nu / 32 := ⟨_, rfl⟩
  have hN1 : 32 * N ≤ nu := by omega
  have hN2 : nu < 32 * N + 32 := by omega
  have hN40 : N ≤ 40 := by omega
  have HNN := Lib.hid hN
  clear hN
  go_upto_block 0 with fail
  go_wp2_with fail
  go_loopg [7, 8] N (fun g v i wr => ∃ (k q c' : Nat) (Y : Option Addr), k ≤ N ∧ g = N - k ∧ v = .slice Y q c' ∧ i = .int .i64 (32 * (k : Int)) ∧ q = k ∧ Hid (AccS w wr (.slice Y q c') ((rowD ds).take k)))
  case atStart => exact ⟨0, 0, 0, none, by omega, rfl, rfl, rfl, rfl, Lib.hid (AccS.nil (Below.refl _ _))⟩
  case round =>
    obtain ⟨k, q, c', Y, hk, rfl, rfl, rfl, rfl, hH⟩ := hrel
    by_cases hlt : q < N
    · obtain ⟨ad, hXa⟩ : ∃ ad, X = some ad := by
        obtain ⟨a, ha, _⟩ := HD.out.1.1 (by have := HD.out.2.1; omega)
        exact ⟨a, ha⟩
      have hnc : nu ≤ c := by have := HD.out.1.2.2.1; have := HD.out.2.1; omega
      have hcv := conv_piece (HD.out.1.on hH.out.2) hXa (32 * q) 32 (c - 32 * q) (by have := HD.out.2.1; omega)
      have HT := Lib.hid (rowD_next (ds := ds) (k := q) (by have := HD.out.2.1; have := HNN.out; omega))
      obtain ⟨S, hS⟩ : ∃ S, S = strOfNums ((ds.drop (32 * q)).take 32) := ⟨_, rfl⟩
      rw [← hS] at hcv HT
      have hlen : ((rowD ds).take q).length = q := by rw [List.length_take, rowD_len]; have := HD.out.2.1; have := HNN.out; omega
      obtain ⟨Y7, c7, W7, hap, h7⟩ := hH.out.one S (by omega)
      rw [hlen] at hap h7
      rw [← HT.out] at h7
      have HP := Lib.hid hap
      have H7 := Lib.hid h7
      have h1 : 32 * (q : Int) + 32 ≤ (nu : Int) := by omega
      have h2 : 32 * (q : Int) + 32 ≤ (c : Int) := by omega
      have h3 : (32 * (q : Int)).toNat = 32 * q := by omega
      have h4 : (32 * (q : Int) + 32).toNat = 32 * q + 32 := by omega
      have h5 : ¬ c = 32 * q := by omega
      have h6 : 32 * q + 32 - 32 * q = 32 := by omega
      subst hXa
      clear hap h7 hS hlen HT hnc
      go_wp2_with (at_builtin; refine wpList_append_run rfl _ _ 23 rfl rfl rfl HP.out ?_)
      go_roundg (N - (q + 1))
      case measure => omega
      case rel => exact ⟨q + 1, q + 1, c7, Y7, by omega, rfl, rfl, by go_num, rfl, Lib.hid H7.out⟩
    have h1 : ¬ 32 * (q : Int) + 32 ≤ (nu : Int) := by omega
    have hqN : q = N := by omega
    have H1 := Lib.hid (show AccS w wr (.slice Y q c') (rowD ds) by
      have h := hH.out
      rwa [List.take_of_length_le (by rw [rowD_len]; have := HD.out.2.1; have := HNN.out; omega)] at h)
    have HLn := Lib.hid (show q = ds.length / 32 by rw [hqN, HNN.out, HD.out.2.1])
    have hB := H1.out.2
    have HNd := Lib.hid (node_p X c nu ds f m wr (HD.out.2.2.on hB) (HD.out.1.on hB) HD.out.2.1 hl HI.out.1 HI.out.2)
    clear hH hB hqN
    go_upto_region 9 with (go_at_call 5; refine HNd.out.mono ?_; rintro e w2 ⟨rfl, b2⟩; have B2 := Lib.hid b2; clear b2)
    clear HNd
    go_cut [11] from 40 to 74 (fun v wx => v = .bool (decide (powH m)) ∧ w2 = wx)
    case first =>
      by_cases hp : powH m
      · have HE := Lib.hid (decide_eq_true hp)
        generalize decide (powH m) = bp at *
        unfold powH at hp
        rcases hp with rfl | rfl | rfl | rfl | rfl | rfl | rfl | rfl | rfl
        all_goals
          go_wp2_with fail
          go_meet
          case rel => exact ⟨by rw [HE.out], rfl⟩
      · have HE := Lib.hid (decide_eq_false hp)
        generalize decide (powH m) = bp at *
        unfold powH at hp
        simp only [not_or] at hp
        obtain ⟨p1, p2, p3, p4, p5, p6, p7, p8, p9⟩ := hp
        have q1 : (m == 1) = false := by simpa using p1
        have q2 : (m == 2) = false := by simpa using p2
        have q3 : (m == 4) = false := by simpa using p3
        have q4 : (m == 8) = false := by simpa using p4
        have q5 : (m == 16) = false := by simpa using p5
        have q6 : (m == 32) = false := by simpa using p6
        have q7 : (m == 64) = false := by simpa using p7
        have q8 : (m == 128) = false := by simpa using p8
        have q9 : (m == 256) = false := by simpa using p9
        go_wp2_with fail
        go_meet
        case rel => exact ⟨by rw [HE.out], rfl⟩
    case rest =>
    obtain ⟨rfl, rfl⟩ := hcut
    have HB2 := Lib.hid (show Below w.heap.size w w2 from H1.out.2.trans (B2.out.mono H1.out.2.size))
    obtain ⟨T, hTT⟩ : ∃ T, T = nodeT ds f m := ⟨_, rfl⟩
    obtain ⟨K, hKK⟩ : ∃ K, K = nodeK ds f m := ⟨_, rfl⟩
    rw [← hTT, ← hKK]
    have no6 : ¬ okH f m → T = ⟨#[]⟩ ∧ K = 6 := fun h => by
      rw [hTT, hKK]
      unfold nodeT nodeK
      rw [if_neg (fun k => h k.1), if_neg h]
      exact ⟨rfl, rfl⟩
    have no3 : okH f m → ¬ f + m ≤ (q : Int) → T = ⟨#[]⟩ ∧ K = 3 := fun h k => by
      rw [hTT, hKK]
      unfold nodeT nodeK
      rw [if_neg (fun j => k (by rw [HLn.out]; exact j.2)), if_pos h, if_neg (by rw [← HLn.out]; exact k)]
      exact ⟨rfl, rfl⟩
    have yes : okH f m → f + m ≤ (q : Int) → T = rootB (((rowD ds).drop f.toNat).take m.toNat) ∧ K = 0 := fun h k => by
      rw [hTT, hKK]
      unfold nodeT nodeK
      rw [if_pos ⟨h, by rw [← HLn.out]; exact k⟩, if_pos h, if_pos (by rw [← HLn.out]; exact k)]
      exact ⟨rfl, rfl⟩
    have N6 := Lib.hid no6
    have N3 := Lib.hid no3
    have YE := Lib.hid yes
    clear no6 no3 yes hTT hKK
    by_cases hp : powH m
    case neg =>
      obtain ⟨rfl, rfl⟩ := N6.out (fun h => hp h.1)
      rw [decide_eq_false hp]
      clear hp
      go_wp2_with (go_at_call 6; refine (lives12 _).mono ?_; rintro e w9 ⟨rfl, h9⟩; have H9 := Lib.hid h9; clear h9)
      go_ret
      exact ⟨by first | rfl | simp, HB2.out.trans (H9.out.mono HB2.out.size)⟩
    rw [decide_eq_true hp]
    obtain ⟨r1, r2⟩ := powH_range hp
    have HPw := Lib.hid hp
    clear hp
    by_cases hf0 : f < 0
    · obtain ⟨rfl, rfl⟩ := N6.out (fun h => by have := h.2.1; omega)
      go_wp2_with (go_at_call 6; refine (lives12 _).mono ?_; rintro e w9 ⟨rfl, h9⟩; have H9 := Lib.hid h9; clear h9)
      go_ret
      exact ⟨by first | rfl | simp, HB2.out.trans (H9.out.mono HB2.out.size)⟩
    obtain ⟨b, rfl⟩ : ∃ b : Nat, m = (b : Int) := ⟨m.toNat, by omega⟩
    obtain ⟨a, rfl⟩ : ∃ a : Nat, f = (a : Int) := ⟨f.toNat, by omega⟩
    have hb1 : 1 ≤ b := by omega
    have hb0 : ¬ (b : Int) = 0 := by omega
    by_cases hr : (a : Int) % (b : Int) = 0
    case neg =>
      obtain ⟨rfl, rfl⟩ := N6.out (fun h => hr h.2.2)
      have hr2 : ((a : Int) % (b : Int) != 0) = true := by rw [bne_iff_ne]; exact hr
      clear hr
      go_wp2_with (go_at_call 6; refine (lives12 _).mono ?_; rintro e w9 ⟨rfl, h9⟩; have H9 := Lib.hid h9; clear h9)
      go_ret
      exact ⟨by first | rfl | simp, HB2.out.trans (H9.out.mono HB2.out.size)⟩
    have HO := Lib.hid (show okH (a : Int) (b : Int) from ⟨HPw.out, by omega, hr⟩)
    have hr2 : ((a : Int) % (b : Int) != 0) = false := by rw [bne_eq_false_iff_eq]; exact hr
    clear hr N6
    by_cases h1q : q < a
    · obtain ⟨rfl, rfl⟩ := N3.out HO.out (by omega)
      have h1i : (q : Int) < (a : Int) := by omega
      go_wp2_with (go_at_call 6; refine (lives12 _).mono ?_; rintro e w9 ⟨rfl, h9⟩; have H9 := Lib.hid h9; clear h9)
      go_ret
      exact ⟨by first | rfl | simp, HB2.out.trans (H9.out.mono HB2.out.size)⟩
    have h1i : ¬ (q : Int) < (a : Int) := by omega
    by_cases h2q : q < a + b
    · obtain ⟨rfl, rfl⟩ := N3.out HO.out (by omega)
      have h2i : (q : Int) < (a : Int) + (b : Int) := by omega
      go_wp2_with (go_at_call 6; refine (lives12 _).mono ?_; rintro e w9 ⟨rfl, h9⟩; have H9 := Lib.hid h9; clear h9)
      go_ret
      exact ⟨by first | rfl | simp, HB2.out.trans (H9.out.mono HB2.out.size)⟩
    have h2i : ¬ (q : Int) < (a : Int) + (b : Int) := by omega
    obtain ⟨hTT, rfl⟩ := YE.out HO.out (by omega)
    rw [Int.toNat_natCast, Int.toNat_natCast] at hTT
    obtain ⟨k1, k2, k3, k4⟩ := H1.out.ins
    have HRn := Lib.hid (show ∀ W, Below wr.heap.size wr W → Calls Tryd.prog 7 #[.slice Y q c', .int .i64 (a : Int), .int .i64 (b : Int)] W (SaysS W T) from fun W hb => by
      rw [hTT]
      exact rnode12_any Y c' q a b (rowD ds) W (k4.on hb) k1 hb1 (by omega) (by omega) k2 k3 (fun s hs => by have := rowD_32 ds s hs; omega))
    have hTe : (T.toList == T.toList) = true := beq_self_eq_true _
    clear hTT k1 k2 k3 k4 N3 YE HO
    go_wp2_with (first
      | (go_at_call 7; refine (HRn.out _ B2.out).mono ?_; rintro e w5 ⟨rfl, h5⟩; have H5 := Lib.hid h5; clear h5)
      | (go_at_call 6; refine (lives12 _).mono ?_; rintro e w9 ⟨rfl, h9⟩; have H9 := Lib.hid h9; clear h9))
    go_ret
    exact ⟨by first | rfl | simp, HB2.out.trans ((H5.out.trans (H9.out.mono H5.out.size)).mono HB2.out.size)⟩
end Go.Proofs.YtianflcfjaddlaaDoor
namespace Go.Proofs.YtianflcfjaddlaaDoor
open Go.ChangeShapes Go.WideShapes Go.ChangeAt Go.RowKit

theorem ownNone : ownKnob Tryd.prog.godebug = none := by kernel_rfl
theorem laidOut' : laidOutB Tryd.prog = true := by kernel_rfl
/-- Arguments of any number read again in a world in which all that was there is there. -/
theorem args_stay {H : Type} {enc : TypeId × Value → H} {W W' : World} {sp : Nat → Bool} : ∀ (ts : List TypeId) (vs : List Value) (ds : List (DataW H)) (p : List MemPlace),
    (∀ t ∈ ts, Tryd.prog.readableRec t = true ∧ t < Tryd.prog.types.size) → DataW.TrodAll enc Tryd.prog W 0 (fun _ => true) true ts vs ds p → (∀ x ∈ p, W.sameAt W' x) → (∀ x ∈ p, sp x.block = true) → DataW.TrodAll enc Tryd.prog W' 0 sp true ts vs ds p
  | [], vs, ds, p, _, h, _, _ => by
    obtain ⟨rfl, rfl, rfl⟩ := trodAll_nil h
    exact trodAll_mk0
  | t :: ts, vs, ds, p, ht, h, hs, hsp => by
    obtain ⟨v0, vs0, d0, ds0, p0, q0, rfl, rfl, rfl, h0, r0⟩ := trodAll_cons h
    exact trodAll_cons_mk (WideElems.Trod_stays laidOut' (ht t (List.mem_cons_self ..)).1 (ht t (List.mem_cons_self ..)).2 h0 (fun x hx => hs x (List.mem_append_left _ hx)) (fun x hx => hsp x (List.mem_append_left _ hx)))
      (args_stay ts vs0 ds0 q0 (fun u hu => ht u (List.mem_cons_of_mem _ hu)) r0 (fun x hx => hs x (List.mem_append_right _ hx)) (fun x hx => hsp x (List.mem_append_right _ hx)))

set_option maxRecDepth 100000 in
/-- THE END OF A LAW: it is true; nothing that was there has changed. -/
theorem law_post {H : Type} {enc : TypeId × Value → H} {f : Func} {s : ChangeSpec} {handsOn again : Bool} {W W' : World} {args : Array Value} {ds : List (DataW H)} {before : List MemPlace}
    (hW : DataW.Whole enc Tryd.prog f.params.toList s.vars false W args.toList ds [] before) (hvars : s.vars = []) (ht : ∀ t ∈ f.params.toList, Tryd.prog.readableRec t = true ∧ t < Tryd.prog.types.size) (hr : f.resultTypes = #[4])
    (hf : s.fn H (ds ++ []) = { results := [.lit (.bool true)], args := ds, vars := [] }) (hb : Below W.heap.size W W') : s.post enc Tryd.prog f false true handsOn again W args (.bool true) W' := by
  have hW' := hW
  have hlt : ∀ x ∈ before, x.block < W.heap.size := fun x hx => hW'.lt x hx
  obtain ⟨p, q, hA, hV, rfl, hfz, hnd⟩ := hW
  rw [hvars] at hV
  obtain ⟨-, rfl⟩ := trodVars_none hV
  rw [List.append_nil] at hW' hlt hfz hnd
  have hsame : ∀ x ∈ p, W.sameAt W' x := fun x hx => hb.same (hlt x hx)
  have hargs : ∀ sp : Nat → Bool, (∀ x ∈ p, sp x.block = true) → DataW.TrodAll enc Tryd.prog W' 0 sp true f.params.toList args.toList ds p := fun sp hsp => args_stay _ _ _ _ ht hA hsame hsp
  have hres : ∀ (b : Nat) (sp : Nat → Bool) (hd : Bool), DataW.TrodAll enc Tryd.prog W' b sp hd f.resultTypes.toList ((Value.bool true).resultList f.resultTypes.size) [.lit (.bool true)] [] := fun b sp hd => by
    rw [hr]
    exact trodAll_cons_mk (shut_bool Tryd.underlying4 _) trodAll_mk0
  have hf' : s.fn H (ds ++ []) = _ := hf
  have hold : ∀ x ∈ p, (fun b => decide (b < W.heap.size)) x.block = true := fun x hx => by simpa using hlt x hx
  have hvar : ∀ sp : Nat → Bool, DataW.TrodVars enc Tryd.prog W' sp s.vars [] [] := fun sp => by rw [hvars]; rfl
  refine ⟨ds, [], p, [], p, [], hW', by rw [hf']; exact hres _ _ _, by rw [hf']; exact hargs _ hold, by rw [hf']; exact hvar _, World.keptBut_mono (fun x hx => ⟨hx, Or.inr (Or.inl hx)⟩) (hb.frame (· ∈ p)), fun _ => ⟨?_, [.lit (.bool true)] ++ ds, [], p, ⟨p, [], ?_, hvar _, by simp, ?_, fun h => by cases h⟩, ?_⟩⟩
  · exact ok_one hr rfl (okWide_bool_mk Tryd.underlying4 _)
  · rw [hr]
    exact trodAll_cons_mk (shut_bool Tryd.underlying4 _) (hargs _ (fun _ _ => rfl))
  · intro b off hx
    rw [hb.frozen (hlt _ hx)]
    exact hfz b off hx
  · exact fun x hx _ => hx

/-- A world for the witness, of a program of which nothing is listed. -/
noncomputable def plainWorld (os : Os) : World := World.holding Tryd.prog os ⟨#[], #[], []⟩
end Go.Proofs.YtianflcfjaddlaaDoor
namespace Go.Proofs.YtianflcfjaddlaaDoor
open Go.ChangeShapes Go.WideShapes Go.ChangeAt Go.RowKit

theorem gDe64 : Tryd.prog.globalNamed "math/bits.deBruijn64tab" = some 1 := by kernel_rfl
theorem gDeT : (Tryd.prog.globals[1]?).map (·.type) = some 98 := by kernel_rfl
theorem cellsDe : Tryd.prog.cellsOf 98 = 64 := by kernel_rfl
theorem cellsU8 : Tryd.prog.cellsOf 5 = 1 := by kernel_rfl
def deL : List Int := Lib.deBruijn64tab.map (fun n : Nat => (n : Int))
theorem deL_at : ∀ j, j < 64 → deL.getD j 0 = ((Lib.deBruijn64tab.getD j 0 : Nat) : Int) := by decide +kernel
theorem laid_de {H : Type} : (Rows.laid_math_bits_deBruijn64tab : DataW H) = Lib.tabData .u8 deL := rfl
theorem tab_of {rest : List (String × DataW Unit)} {W : World} (h : laidMet Tryd.prog (("math/bits.deBruijn32tab", Rows.laid_math_bits_deBruijn32tab) :: ("math/bits.deBruijn64tab", Rows.laid_math_bits_deBruijn64tab) :: rest) W) : Tab64 W := by
  have h1 : Lib.TabIs Tryd.prog W "math/bits.deBruijn64tab" .u8 deL := Lib.tabIs_of_head gDe64 gDeT Tryd.underlying98 Tryd.underlying5 cellsU8 cellsDe (laidMet.tail h)
  have c1 := fun i (hi : i < 64) => h1.cell gDe64 i hi
  exact ⟨World.block_lt_of_cell? _ _ (c1 0 (by omega)), fun j hj => (c1 j hj).trans (by rw [deL_at j hj])⟩
theorem tabs_of {W : World} (h : laidMet Tryd.prog [("math/bits.deBruijn32tab", Rows.laid_math_bits_deBruijn32tab), ("math/bits.deBruijn64tab", Rows.laid_math_bits_deBruijn64tab)] W) : Tab64 W := tab_of h

def leafs : Nat → DataW Unit → List Value
  | n + 1, .agg l => l.flatMap (leafs n)
  | _, .lit (.int k z) => [.int k z]
  | _, _ => []
/-- A block's cells, its type and marks as they are. -/
def layCells (vs : List Value) : Obj → Obj
  | .cells _ t frozen => .cells vs.toArray t frozen
  | o => o
/-- A world for the witness: what is listed holds what the program's text lays. -/
noncomputable def laidWorld (os : Os) : World :=
  let w0 := World.holding Tryd.prog os ⟨#[], #[], []⟩
  { w0 with
    heap := (((w0.heap.modify 0 (layCells (leafs 3 Rows.laid_math_bits_deBruijn32tab))).modify 1 (layCells (leafs 3 Rows.laid_math_bits_deBruijn64tab))).modify 3 (layCells (leafs 3 Rows.laid_pantile_digest_squareRoots))).modify 4 (layCells (leafs 3 Rows.laid_pantile_digest_cubeRoots)) }
end Go.Proofs.YtianflcfjaddlaaDoor
namespace Go.Proofs.YtianflcfjaddlaaDoor
open Go.ChangeShapes Go.WideShapes Go.ChangeAt Go.RowKit

theorem gSq : Tryd.prog.globalNamed "pantile/digest.squareRoots" = some 3 := by kernel_rfl
theorem gCu : Tryd.prog.globalNamed "pantile/digest.cubeRoots" = some 4 := by kernel_rfl
theorem gSqT : (Tryd.prog.globals[3]?).map (·.type) = some 114 := by kernel_rfl
theorem gCuT : (Tryd.prog.globals[4]?).map (·.type) = some 125 := by kernel_rfl
theorem cellsSq : Tryd.prog.cellsOf 114 = 8 := by kernel_rfl
theorem cellsCu : Tryd.prog.cellsOf 125 = 80 := by kernel_rfl
theorem cellsU64 : Tryd.prog.cellsOf 63 = 1 := by kernel_rfl
theorem laid_sq {H : Type} : (Rows.laid_pantile_digest_squareRoots : DataW H) = Lib.tabData .u64 sqL := rfl
theorem laid_cu {H : Type} : (Rows.laid_pantile_digest_cubeRoots : DataW H) = Lib.tabData .u64 cuL := rfl
theorem tabsH_of {W : World} (h : laidMet Tryd.prog [("math/bits.deBruijn32tab", Rows.laid_math_bits_deBruijn32tab), ("math/bits.deBruijn64tab", Rows.laid_math_bits_deBruijn64tab), ("pantile/digest.squareRoots", Rows.laid_pantile_digest_squareRoots), ("pantile/digest.cubeRoots", Rows.laid_pantile_digest_cubeRoots)] W) : TabsH W := by
  have h3 := laidMet.tail (laidMet.tail h)
  have h1 : Lib.TabIs Tryd.prog W "pantile/digest.squareRoots" .u64 sqL := Lib.tabIs_of_head gSq gSqT Tryd.underlying114 Tryd.underlying63 cellsU64 cellsSq h3
  have h2 : Lib.TabIs Tryd.prog W "pantile/digest.cubeRoots" .u64 cuL := Lib.tabIs_of_head gCu gCuT Tryd.underlying125 Tryd.underlying63 cellsU64 cellsCu (laidMet.tail h3)
  have c1 := fun i (hi : i < 8) => h1.cell gSq i hi
  have c2 := fun i (hi : i < 80) => h2.cell gCu i hi
  exact ⟨tab_of h, World.block_lt_of_cell? _ _ (c2 0 (by omega)), c1, c2⟩
end Go.Proofs.YtianflcfjaddlaaDoor
