/- The walk of DriveKeeps. -/
import Derived.Test.YtaijjjlpbpogfaaT13KeepsM
import Derived.Test.YtaijjjlpbpogfaaT13Twice
import Derived.Deep.QuietTactic
import Derived.BigQuiet
namespace Go.Proofs.Ytaijjjlpbpogfaa
open Go.RowKit

/-- What grows is the law's. -/
theorem HasD.grown {w0 W W' : World} {X : List (Nat × Obj)} {rb pb : Nat} {R P : Dr} {row : Option Nat} (h : HasD w0 W X rb R pb P) (hg : W.grownBy W' row) (hr : ∀ g, row = some g → (∃ o, (g, o) ∈ X) ∧ w0.heap.size ≤ g) (g : Nat) (o : Obj) (hn : row = some g ∨ W.heap.size ≤ g) (ho : W'.heap[g]? = some o) : HasD w0 W' [(g, o)] rb R pb P := by
  obtain ⟨Or, Op, t⟩ := h
  have h1 : ∀ k, Or k → some k ≠ row := fun k hk e => by
    obtain ⟨⟨o2, h2⟩, -⟩ := hr k e.symm
    exact (t.xs _ h2).2.1 hk
  have h2 : ∀ k, Op k → some k ≠ row := fun k hk e => by
    obtain ⟨⟨o2, h2⟩, -⟩ := hr k e.symm
    exact (t.xs _ h2).2.2 hk
  have hs := hg.size
  obtain ⟨F, fv, hR⟩ := t.r
  refine ⟨Or, Op, ⟨F, fv, hR.keep (fun _ h => h) (fun k hk hl => hg.block k hl (h1 k hk))⟩, t.p.keep (fun _ h => h) (fun k hk hl => hg.block k hl (h2 k hk)), t.apart, fun k hk => ⟨(t.rl k hk).1, Nat.lt_of_lt_of_le (t.rl k hk).2 hs⟩, fun k hk => ⟨(t.pl k hk).1, Nat.lt_of_lt_of_le (t.pl k hk).2 hs⟩, t.below.grown hg t.below.size (fun k e => (hr k e).2), fun p hp => ?_⟩
  cases List.mem_singleton.1 hp
  refine ⟨ho, fun hk => ?_, fun hk => ?_⟩
  · rcases hn with hn | hn
    · exact h1 g hk hn.symm
    · have := (t.rl g hk).2
      omega
  · rcases hn with hn | hn
    · exact h2 g hk hn.symm
    · have := (t.pl g hk).2
      omega
/-- One more text in the law's own row. -/
theorem may_one {w0 W : World} {X : List (Nat × Obj)} {rb pb n : Nat} {R P : Dr} {v : Value} {xs : List Value} (hown : W.ownsRow w0.heap.size 9 1 v n xs) (h : HasD w0 W X rb R pb P) (hv : ∀ g, v.ownBlock = some g → ∃ o, (g, o) ∈ X) (s : ByteArray) (hn : n ≤ 1000) :
    ∃ g c W', (Builtin.append_ #[38, 38] 38 #[v, .slice (some ⟨W.heap.size, 0, none⟩) 1 1]).run Try.prog (W.alloc (.cells #[.string s] 9)) = .ok (.slice (some ⟨g, 0, none⟩) (n + 1) c) W' ∧ W'.ownsRow w0.heap.size 9 1 (.slice (some ⟨g, 0, none⟩) (n + 1) c) (n + 1) (xs ++ [.string s]) ∧ ∃ o, W'.heap[g]? = some o ∧ HasD w0 W' [(g, o)] rb R pb P := by
  obtain ⟨v', W', hr, ho, hg, hb⟩ := append_text w0.heap.size n v xs s W hown (by omega) h.below.size
  obtain ⟨S, c, rfl, -, h0, hS⟩ := own_slice ho
  cases S with
  | none => have := (h0 rfl).1; omega
  | some a =>
    obtain ⟨g, rfl, h1, h2, -⟩ := hS a rfl
    refine ⟨g, c, W', hr, ho, W'.heap[g]'h2, Array.getElem?_eq_getElem h2, ?_⟩
    have hb2 : Below W.heap.size W (W.alloc (.cells #[.string s] 9)) := (Below.refl _ _).alloc (Nat.le_refl _) _
    refine (h.on hb2).grown hg (fun k e => ⟨hv k e, own_ge hown e⟩) g _ ?_ (Array.getElem?_eq_getElem h2)
    rcases hb with hb | hb
    · exact .inl hb.symm
    · right
      have e : g = W.heap.size + 1 := by simpa [Value.ownBlock] using hb
      rw [e]
      simp
/-- What may be read. -/
def mayL (s : ByteArray) (l : List ByteArray) (k : Nat) : List ByteArray := (List.range (k + 1)).map fun j => joinP s (l.take j)
theorem mayL_next (s : ByteArray) (l : List ByteArray) (k : Nat) : mayL s l (k + 1) = mayL s l k ++ [joinP s (l.take (k + 1))] := by
  unfold mayL
  rw [List.range_succ, List.map_append]
  rfl
theorem sum_few (l : List ByteArray) (h : ∀ x ∈ l, x.size ≤ 70) : sumP l ≤ 70 * l.length := by
  induction l with
  | nil => exact Nat.le_refl _
  | cons x l ih =>
    have h1 := ih (fun y hy => h y (List.mem_cons_of_mem _ hy))
    have h2 := h x (List.mem_cons_self ..)
    have e : sumP (x :: l) = x.size + sumP l := rfl
    rw [e, List.length_cons]
    omega
theorem mine_beq (t : ByteArray) : (t.toList == [109, 105, 110, 101]) = decide (t = mN) := by
  have e : mN.toList = [109, 105, 110, 101] := by rw [Lib.toList_data]; rfl
  by_cases h : t = mN
  · rw [decide_eq_true h, h, e]
    rfl
  · rw [decide_eq_false h, ← e]
    exact toList_ne h
set_option maxRecDepth 100000 in
set_option maxHeartbeats 8000000 in
theorem keeps_law (s0 : ByteArray) (B : Option Addr) (cB : Nat) (pcs : List ByteArray) (A : Option Addr) (c : Nat) (xs : List Ask) (K : Option Addr) (cK : Nat) (keep : List Int) (w : World)
    (hs0 : s0.size ≤ 9223372036854775807) (hB : StrsIn w B pcs) (hBm : cB ≤ maxLen) (hBs : ∀ x ∈ pcs, x.size ≤ 9223372036854775807) (hcm : c ≤ maxLen) (hx : DeedsAt w A xs) (hk : keep.length ≤ cK) (hkm : cK ≤ maxLen) (hK : IntsAt w K keep) :
    Calls Try.prog 4 #[.string s0, .slice B pcs.length cB, .slice A xs.length c, .slice K keep.length cK] w (fun e w' => e = .returned (.bool true) ∧ Below w.heap.size w w') := by
  have hcm' : c ≤ 9223372036854775807 := hcm
  have hBm' : cB ≤ 9223372036854775807 := hBm
  obtain ⟨n, hn⟩ : ∃ n, n = xs.length := ⟨_, rfl⟩
  obtain ⟨m, hm⟩ : ∃ m, m = keep.length := ⟨_, rfl⟩
  obtain ⟨np, hnp⟩ : ∃ np, np = pcs.length := ⟨_, rfl⟩
  rw [← hn, ← hm, ← hnp]
  have HX := Lib.hid (And.intro hx hn)
  have HK := Lib.hid (And.intro hm (And.intro hk (And.intro hkm hK)))
  obtain ⟨PS, hPS⟩ : ∃ PS, PS = (pcs.take 5).map few70 := ⟨_, rfl⟩
  have hPSl : PS.length = min 5 np := by rw [hPS, List.length_map, List.length_take, hnp]
  have hPS70 : ∀ x ∈ PS, x.size ≤ 70 := fun x hx => by
    rw [hPS] at hx
    obtain ⟨y, -, rfl⟩ := List.mem_map.1 hx
    exact few70_size y
  have hPSat : ∀ i x, i < 5 → pcs[i]? = some x → PS[i]? = some (few70 x) := fun i x hi hx => by
    rw [hPS, List.getElem?_map, List.getElem?_take_of_lt hi, hx]
    rfl
  have HB := Lib.hid (And.intro hB (And.intro hBs (And.intro hnp (And.intro hPSl (And.intro hPS70 hPSat)))))
  have HF := Lib.hid (few13_any s0 · hs0)
  obtain ⟨s, hs⟩ : ∃ s, s = few70 s0 := ⟨_, rfl⟩
  have hs70 : s.size ≤ 70 := by rw [hs]; exact few70_size s0
  rw [← hs] at HF
  have h : newOk 100000 := by decide
  have HN := Lib.hid (pnew_any 100000 w h)
  have HR := Lib.hid (fun W => rnew_any 100000 W h)
  have A0 := all_new h
  have A1 := all_create mN A0
  rw [kp_create] at A1
  have A2 := all_append mN s A1 hs70
  have ka := kp_append (s := ⟨#[]⟩) (t := s) (l := []) (d := 1) (by show 0 + 0 + s.size ≤ 100000; omega)
  rw [List.nil_append] at ka
  rw [ka] at A2
  have A3 := all_sync mN A2
  have ks := kp_sync (s := ⟨#[]⟩) (t := s) (d := 2) rfl
  rw [ks] at A3
  have HI := Lib.hid (And.intro A0 A3)
  have HCr := Lib.hid (fun w0 W X rb R pb (h : HasD w0 W X rb R pb (newD 100000)) => by
    have k := hp_create h mN (A0.go (by decide)) (by decide)
    rw [kp_create] at k
    exact k)
  have HAp := Lib.hid (fun w0 W X rb R pb (h : HasD w0 W X rb R pb (kpD ⟨#[]⟩ [] 1)) S m c hX hf hm => by
    have k := hp_append h mN S m c (txt s) (A1.go (by decide)) hX hf hm (by rw [hm, txt_length]; omega) (by decide)
    rw [str_txt, ka] at k
    exact k)
  have HSy := Lib.hid (fun w0 W X rb R pb (h : HasD w0 W X rb R pb (kpD ⟨#[]⟩ [s] 2)) => by
    have k := hp_sync h mN (A2.go (by decide)) (by decide)
    rw [ks] at k
    exact k)
  clear h hx hn hcm hm hk hkm hK hs hs0 A0 A1 A2 A3 ka ks hB hBs hnp hPS hPSl hPS70 hPSat hBm
  generalize newD 100000 = D0 at *
  go_enter Try.func4, Try.ntmps4
  go_upto_region 2 with (go_at_call 10; refine HN.out.mono ?_; rintro e w1 ⟨pb, rfl, hp, hb⟩; have HP := Lib.hid (And.intro hp hb); clear hp hb)
  go_upto_region 3 with (go_at_call 11; refine (HR.out _).mono ?_; rintro e w2 ⟨rfl, hr, hb⟩; have HH := Lib.hid (has_init HP.out.1 HP.out.2 hr hb); clear hr hb)
  clear HP HR HN
  generalize w1.heap.size = rb at *
  go_upto_region 6 with (go_at_call 16; refine (HF.out _).mono ?_; rintro e wq ⟨rfl, hw⟩; rw [hw]; clear hw wq)
  go_upto_region 7 with (go_at_call 17; refine (HCr.out _ _ _ _ _ _ HH.out).mono ?_; rintro e w3 ⟨rfl, h3⟩; have H3 := Lib.hid h3; clear h3)
  clear HH HCr
  obtain ⟨cB0, oB, hcv, hc1, hc2, hc3⟩ := bytes13 s (by omega) w3
  have HBI := Lib.hid (bytes13_in hc1 hc2 hc3)
  have HB1 := Lib.hid (H3.out.bytes oB)
  clear hc1 hc2 hc3 H3
  generalize w3.drew.alloc oB = WB at *
  generalize w3.heap.size = qB at *
  have HAp2 := Lib.hid (HAp.out _ _ _ _ _ _ HB1.out _ _ cB0 HBI.out (fun a ha => ⟨oB, by cases ha; exact List.mem_cons_self ..⟩) (txt_length s).symm)
  go_upto_region 8 with (go_at_call 18; refine HAp2.out.mono ?_; rintro e w4 ⟨rfl, h4⟩; have H4 := Lib.hid (h4.drop (Y := []) fun p hp => by cases hp); clear h4)
  clear HAp2 HAp HB1 HBI hcv
  go_upto_region 9 with (go_at_call 19; refine (HSy.out _ _ _ _ _ _ H4.out).mono ?_; rintro e w5 ⟨rfl, h5⟩; have H5 := Lib.hid h5; clear h5)
  clear H4 HSy
  obtain ⟨g0, c0, w6, hap, hrow, o0, ho0, h6⟩ := may_one (World.ownsRow_nil _ _ _ _) H5.out (fun g e => by cases e) s (by decide)
  have HM6 := Lib.hid (And.intro hrow (And.intro ho0 h6))
  have HP6 := Lib.hid hap
  clear hap hrow ho0 h6 H5
  go_upto_region 12 with (at_builtin; refine wpList_append_run rfl _ _ 38 rfl rfl rfl HP6.out ?_)
  clear HP6
  go_upto_block 0 with fail
  go_wp2_with fail
  go_loopg [11, 12, 13] 5 (fun g a mv j wr => ∃ (i gb cm : Nat) (all : ByteArray), i ≤ 5 ∧ i ≤ np ∧ g = 5 - i ∧ a = .string all ∧ mv = .slice (some ⟨gb, 0, none⟩) (i + 1) cm ∧ j = .int .i64 (i : Int) ∧ Hid (∃ o, all = joinP s (PS.take i) ∧ wr.ownsRow w.heap.size 9 1 (.slice (some ⟨gb, 0, none⟩) (i + 1) cm) (i + 1) ((mayL s PS i).map Value.string) ∧ HasD w wr [(gb, o)] rb D0 pb (kpD s (PS.take i) (3 + i)) ∧ AllD (kpD s (PS.take i) (3 + i)) (3 + i)))
  case atStart => exact ⟨0, g0, c0, s, by omega, by omega, rfl, rfl, rfl, rfl, Lib.hid ⟨o0, rfl, HM6.out.1, HM6.out.2.2, HI.out.2⟩⟩
  case round =>
    obtain ⟨i, gb, cm, all, hi5, hinp, rfl, rfl, rfl, rfl, hH⟩ := hrel
    obtain ⟨o, hall, hrow, hD, hA⟩ := hH.out
    have hsum := sum_few (PS.take i) (fun x hx => HB.out.2.2.2.2.1 x (List.mem_of_mem_take hx))
    rw [List.length_take] at hsum
    have hall70 : all.size ≤ 420 := by
      rw [hall, joinP_size]
      omega
    obtain ⟨bb, hbb⟩ : ∃ bb : Bool, bb = decide (i < np ∧ i < 5) := ⟨_, rfl⟩
    have HBB := Lib.hid hbb
    have HHl := Lib.hid hall
    clear hbb hall
    go_upto_region 13 with fail
    go_cut [46] from 39 to 46 (fun v wx => v = .bool bb ∧ wr = wx)
    case first =>
      by_cases l1 : i < np
      · have hi1 : (i : Int) < (np : Int) := by omega
        by_cases l2 : i < 5
        · have hi2 : (i : Int) < 5 := by omega
          have HB1 := Lib.hid (show bb = true by rw [HBB.out]; exact decide_eq_true ⟨l1, l2⟩)
          clear l1 l2
          go_wp2_with fail
          go_meet
          case rel => exact ⟨by rw [HB1.out], rfl⟩
        · have hi2 : ¬ (i : Int) < 5 := by omega
          have HB1 := Lib.hid (show bb = false by rw [HBB.out]; exact decide_eq_false fun h => l2 h.2)
          clear l1 l2
          go_wp2_with fail
          go_meet
          case rel => exact ⟨by rw [HB1.out], rfl⟩
      · have hi1 : ¬ (i : Int) < (np : Int) := by omega
        have HB1 := Lib.hid (show bb = false by rw [HBB.out]; exact decide_eq_false fun h => l1 h.1)
        clear l1
        go_wp2_with fail
        go_meet
        case rel => exact ⟨by rw [HB1.out], rfl⟩
    case rest =>
    obtain ⟨rfl, rfl⟩ := hcut
    by_cases hlt : i < np ∧ i < 5
    · have hbt : bb = true := by rw [HBB.out]; exact decide_eq_true hlt
      subst hbt
      obtain ⟨l1, l2⟩ := hlt
      have hi1 : (i : Int) < (np : Int) := by omega
      obtain ⟨x, hxi⟩ : ∃ x, pcs[i]? = some x := ⟨pcs[i]'(by have := HB.out.2.2.1; omega), List.getElem?_eq_getElem _⟩
      obtain ⟨ad, rfl, hab, hac⟩ := HB.out.1 i x hxi
      have hxs := HB.out.2.1 x (List.mem_of_getElem? hxi)
      have HFx := Lib.hid (fun W => few13_any x W hxs)
      have hPi := HB.out.2.2.2.2.2 i x l2 hxi
      obtain ⟨y, hy⟩ : ∃ y, y = few70 x := ⟨_, rfl⟩
      have hy70 : y.size ≤ 70 := by rw [hy]; exact few70_size x
      rw [← hy] at HFx hPi
      have hc0 : wr.cell? (ad.add i) = some (.string x) := (hD.below.cell (by rw [addr_add_block]; exact hab)).trans hac
      have HAC := Lib.hid (fun W (hb : Below w.heap.size w W) => show W.cell? (ad.add i) = some (.string x) from (hb.cell (by rw [addr_add_block]; exact hab)).trans hac)
      obtain ⟨cY, oY, hcv, hc1, hc2, hc3⟩ := bytes13 y (by omega) wr
      have HBI := Lib.hid (bytes13_in hc1 hc2 hc3)
      have HB1 := Lib.hid (hD.bytes oY)
      have hsz := kp_append (s := s) (t := y) (l := PS.take i) (d := 3 + i) (by omega)
      have hnx : PS.take (i + 1) = PS.take i ++ [y] := by rw [List.take_add_one, hPi]; rfl
      rw [← hnx] at hsz
      have hA2 := all_append mN y hA hy70
      rw [hsz] at hA2
      have HA2 := Lib.hid hA2
      have HAp := hp_append HB1.out mN _ _ cY (txt y) (hA.go (n := 3 + i) (by omega)) HBI.out (fun a ha => ⟨oY, by cases ha; exact List.mem_cons_self ..⟩) (txt_length y).symm (by omega) (by decide)
      rw [str_txt, hsz] at HAp
      have HAp := Lib.hid HAp
      have HRow := Lib.hid hrow
      have HStands := Lib.hid (hD.stands (List.mem_singleton.2 rfl))
      have HAll := Lib.hid (show all ++ y = joinP s (PS.take (i + 1)) by rw [hnx, joinP_one, HHl.out])
      clear hc1 hc2 hc3 hD hA hsz hnx hA2 hrow hsum hy hPi hxi hab hac HBI
      generalize wr.drew.alloc oY = WB at *
      generalize wr.heap.size = qY at *
      go_upto_region 16 with (first
        | (go_at_call 16; refine (HFx.out _).mono ?_; rintro e wq ⟨rfl, hw⟩; rw [hw]; clear hw wq)
        | (go_at_call 18; refine HAp.out.mono ?_; rintro e w4 ⟨rfl, h4⟩; have H4 := Lib.hid (h4.drop (Y := [(gb, o)]) fun p hp => List.mem_cons_of_mem _ hp); clear h4))
      clear HAp HB1 hcv hc0
      have hc4 := HAC.out w4 H4.out.below
      go_upto_region 17 with (go_at_call 16; refine (HFx.out _).mono ?_; rintro e wq ⟨rfl, hw⟩; rw [hw]; clear hw wq)
      have hrow4 := own_block HRow.out (W' := w4) (fun g hg => by
        cases hg
        rw [H4.out.stands (List.mem_singleton.2 rfl), HStands.out])
      obtain ⟨T, hT⟩ : ∃ T, T = all ++ y := ⟨_, rfl⟩
      rw [← hT] at HAll ⊢
      obtain ⟨g5, c5, w5', hap, hrow5, o5, ho5, h5⟩ := may_one hrow4 H4.out (fun g e => ⟨o, by cases e; exact List.mem_singleton.2 rfl⟩) T (by omega)
      have hmay : mayL s PS (i + 1) = mayL s PS i ++ [T] := by rw [mayL_next, ← HAll.out]
      have e5 : (mayL s PS i).map Value.string ++ [Value.string T] = (mayL s PS (i + 1)).map Value.string := by rw [hmay, List.map_append]; rfl
      rw [e5] at hrow5
      have HM5 := Lib.hid (And.intro hrow5 (And.intro ho5 h5))
      have HP5 := Lib.hid hap
      clear hap hrow5 ho5 h5 hrow4 hmay e5 hT hc4 H4
      go_wp2_with (at_builtin; refine wpList_append_run rfl _ _ 38 rfl rfl rfl HP5.out ?_)
      go_roundg (5 - (i + 1))
      case measure => omega
      case rel => exact ⟨i + 1, g5, c5, T, by omega, by omega, rfl, rfl, rfl, by go_num, Lib.hid ⟨o5, HAll.out, HM5.out.1, HM5.out.2.2, HA2.out⟩⟩
    · have hPE : PS.take i = PS := List.take_of_length_le (by have := HB.out.2.2.2.1; omega)
      have hall := HHl.out
      rw [hPE] at hD hA hall
      have HD8 := Lib.hid hD
      have HA8 := Lib.hid (all_more hA (show 3 + i ≤ 8 by omega))
      have HKp := Lib.hid (kp_keep s PS (3 + i))
      have HRow := Lib.hid hrow
      have HStands := Lib.hid (hD.stands (List.mem_singleton.2 rfl))
      have HAll := Lib.hid hall
      have HiP := Lib.hid (show i = PS.length by have := HB.out.2.2.2.1; omega)
      have hbf : bb = false := by rw [HBB.out]; exact decide_eq_false hlt
      subst hbf
      clear hPE hD hA hall hrow hsum hlt hH
      generalize kpD s PS (3 + i) = P8 at *
      go_upto_region 18 with fail
      (
        go_upto_block 2 with fail
        go_wp2_with fail
        go_loopg [14, 15] 20 (fun g gv j wr => ∃ (k : Nat) (gone : Bool), k ≤ 20 ∧ k ≤ n ∧ g = 20 - k ∧ gv = .bool gone ∧ j = .int .i64 (k : Int) ∧ Hid (∃ P R, AllD P (8 + k) ∧ AllD R k ∧ KeepI s PS gone P ∧ HasD w wr [(gb, o)] rb R pb P))
        case atStart => exact ⟨0, false, by omega, by omega, rfl, rfl, rfl, Lib.hid ⟨_, D0, HA8.out, HI.out.1, HKp.out, HD8.out⟩⟩
        case round =>
          obtain ⟨k, gone, hk20, hkn, rfl, rfl, rfl, hH⟩ := hrel
          obtain ⟨P, R, hAP, hAR, hKI, hD⟩ := hH.out
          obtain ⟨bb, hbb⟩ : ∃ bb : Bool, bb = decide (k < n ∧ k < 20) := ⟨_, rfl⟩
          have HBB := Lib.hid hbb
          clear hbb
          go_upto_region 20 with fail
          go_cut [75] from 68 to 75 (fun v wx => v = .bool bb ∧ wr = wx)
          case first =>
            by_cases l1 : k < n
            · have hi1 : (k : Int) < (n : Int) := by omega
              by_cases l2 : k < 20
              · have hi2 : (k : Int) < 20 := by omega
                have HB1 := Lib.hid (show bb = true by rw [HBB.out]; exact decide_eq_true ⟨l1, l2⟩)
                clear l1 l2
                go_wp2_with fail
                go_meet
                case rel => exact ⟨by rw [HB1.out], rfl⟩
              · have hi2 : ¬ (k : Int) < 20 := by omega
                have HB1 := Lib.hid (show bb = false by rw [HBB.out]; exact decide_eq_false fun h => l2 h.2)
                clear l1 l2
                go_wp2_with fail
                go_meet
                case rel => exact ⟨by rw [HB1.out], rfl⟩
            · have hi1 : ¬ (k : Int) < (n : Int) := by omega
              have HB1 := Lib.hid (show bb = false by rw [HBB.out]; exact decide_eq_false fun h => l1 h.1)
              clear l1
              go_wp2_with fail
              go_meet
              case rel => exact ⟨by rw [HB1.out], rfl⟩
          case rest =>
          obtain ⟨rfl, rfl⟩ := hcut
          by_cases hlt : k < n ∧ k < 20
          · have hbt : bb = true := by rw [HBB.out]; exact decide_eq_true hlt
            subst hbt
            obtain ⟨l1, l2⟩ := hlt
            have hk1 : (k : Int) < (n : Int) := by omega
            obtain ⟨x, hxk⟩ : ∃ x, xs[k]? = some x := ⟨xs[k]'(by have := HX.out.2; omega), List.getElem?_eq_getElem _⟩
            obtain ⟨ad, v, rfl, hab, hv, hAsk⟩ := HX.out.1 k x hxk
            obtain ⟨c0', c1, c2, c3, c4, rfl, x0, x1, x2, x3, x4⟩ := hv.load hab hD.below
            obtain ⟨A5, k5, c5, e5, -⟩ := hAsk.form
            cases e5
            go_upto_region 23 with fail
            clear x0 x1 x2 x3 x4 hv hab hxk
            have H1 := Lib.hid (hD.push (.cells #[.int .i64 x.kind, .int .i64 x.n, .string x.a, .string x.b, .slice A5 k5 c5] 31))
            have HO := Lib.hid (box_cells (.int .i64 x.kind) (.int .i64 x.n) (.string x.a) (.string x.b) (.slice A5 k5 c5) 31 wr.heap.size)
            generalize wr.alloc (.cells #[.int .i64 x.kind, .int .i64 x.n, .string x.a, .string x.b, .slice A5 k5 c5] 31) = W1 at *
            generalize wr.heap.size = z at *
            generalize Obj.cells #[.int .i64 x.kind, .int .i64 x.n, .string x.a, .string x.b, .slice A5 k5 c5] 31 = o1 at *
            obtain ⟨y0, y1, y2, y3, y4⟩ := HO.out _ (H1.out.stands (List.mem_cons_self ..))
            have HFa := Lib.hid (fun W => few13_any x.a W hAsk.asz)
            have HFb := Lib.hid (fun W => few13_any x.b W hAsk.bsz)
            have HSk := Lib.hid (show ∃ P2 R2, AllD P2 (8 + (k + 1)) ∧ AllD R2 (k + 1) ∧ KeepI s PS gone P2 ∧ HasD w W1 [(gb, o)] rb R2 pb P2 from ⟨P, R, all_more hAP (by omega), all_more hAR (by omega), hKI, H1.out.drop fun p hp => List.mem_cons_of_mem _ hp⟩)
            have HSz := Lib.hid (And.intro hAsk.asz hAsk.bsz)
            have ma := mine_beq (few70 x.a)
            have mb := mine_beq (few70 x.b)
            by_cases h7 : x.kind = 7
            · have h7' : (x.kind == 7) = true := by rw [h7]; rfl
              clear hD hAP hAR hKI hAsk ma mb h7
              go_wp2_with (go_at_call 16; refine (few13_any _ _ (by first | exact HSz.out.1 | exact HSz.out.2)).mono ?_; rintro e wq ⟨rfl, hw⟩; rw [hw]; clear hw wq)
              go_roundg (20 - (k + 1))
              case measure => omega
              case rel => exact ⟨k + 1, gone, by omega, by omega, rfl, rfl, by go_num, HSk⟩
            have h7' : (x.kind == 7) = false := by rw [beq_eq_false_iff_ne]; exact h7
            by_cases hA : few70 x.a = mN
            · rw [decide_eq_true hA] at ma
              clear hD hAP hAR hKI hAsk mb h7 hA
              go_wp2_with (go_at_call 16; refine (few13_any _ _ (by first | exact HSz.out.1 | exact HSz.out.2)).mono ?_; rintro e wq ⟨rfl, hw⟩; rw [hw]; clear hw wq)
              go_roundg (20 - (k + 1))
              case measure => omega
              case rel => exact ⟨k + 1, gone, by omega, by omega, rfl, rfl, by go_num, HSk⟩
            rw [decide_eq_false hA] at ma
            by_cases hB : few70 x.b = mN
            · rw [decide_eq_true hB] at mb
              clear hD hAP hAR hKI hAsk h7 hA hB
              go_wp2_with (go_at_call 16; refine (few13_any _ _ (by first | exact HSz.out.1 | exact HSz.out.2)).mono ?_; rintro e wq ⟨rfl, hw⟩; rw [hw]; clear hw wq)
              go_roundg (20 - (k + 1))
              case measure => omega
              case rel => exact ⟨k + 1, gone, by omega, by omega, rfl, rfl, by go_num, HSk⟩
            rw [decide_eq_false hB] at mb
            have HKa := Lib.hid (keepI_ans hAP hKI h7 hA hB)
            have HDo := Lib.hid (fun W (h : HasD w W [(z, o1), (gb, o)] rb R pb P) => does_any hAsk h hAR hAP (by omega) (by omega))
            have HA1 := Lib.hid (And.intro (all_ans hAsk hAP) (all_ans hAsk hAR))
            have HG := Lib.hid (hAP.go (n := 8 + k) (by omega))
            clear hD hAP hAR hKI hAsk h7 hA hB HSk
            go_upto_region 24 with (go_at_call 16; refine (few13_any _ _ (by first | exact HSz.out.1 | exact HSz.out.2)).mono ?_; rintro e wq ⟨rfl, hw⟩; rw [hw]; clear hw wq)
            clear ma mb h7' y0 y1 y2 y3 y4
            obtain ⟨G2, hG2⟩ : ∃ G2, G2 = (gone || (decide (x.kind = 6) && P.down)) := ⟨_, rfl⟩
            rw [← hG2] at HKa
            have HG2 := Lib.hid hG2
            clear hG2
            have HAl := hp_alive H1.out HG.out
            obtain ⟨dn, hdn⟩ : ∃ dn, dn = P.down := ⟨_, rfl⟩
            rw [← hdn] at HAl HG2
            have HAl := Lib.hid HAl
            clear hdn
            have HZO := Lib.hid (HO.out)
            go_cut [14] from 97 to 107 (fun v wx => v = .bool G2 ∧ HasD w wx [(z, o1), (gb, o)] rb R pb P)
            case first =>
              obtain ⟨y0, y1, y2, y3, y4⟩ := HO.out _ (H1.out.stands (List.mem_cons_self ..))
              clear y1 y2 y3 y4
              cases gone with
              | true =>
                go_wp2_with fail
                go_meet
                case rel => exact ⟨by rw [HG2.out, Bool.true_or], H1.out⟩
              | false =>
                by_cases h6 : x.kind = 6
                · have h6' : (x.kind == 6) = true := by rw [h6]; rfl
                  have HG3 := Lib.hid (show G2 = dn by rw [HG2.out, decide_eq_true h6]; simp)
                  clear h6
                  go_wp2_with (go_at_call 20; refine HAl.out.mono ?_; rintro e w7 ⟨rfl, h7⟩; have H7 := Lib.hid h7; clear h7)
                  go_meet
                  case rel => exact ⟨by rw [HG3.out]; try simp, H7.out⟩
                · have h6' : (x.kind == 6) = false := by rw [beq_eq_false_iff_ne]; exact h6
                  have HG3 := Lib.hid (show G2 = false by rw [HG2.out, decide_eq_false h6]; simp)
                  clear h6
                  go_wp2_with fail
                  go_meet
                  case rel => exact ⟨by rw [HG3.out], H1.out⟩
            case rest =>
            obtain ⟨rfl, hD2⟩ := hcut
            have HD2 := Lib.hid hD2
            obtain ⟨y0, y1, y2, y3, y4⟩ := HO.out _ (hD2.stands (List.mem_cons_self ..))
            clear hD2 HAl H1
            have HDo2 := Lib.hid (HDo.out _ HD2.out)
            generalize (ansD P x).2 = P2 at *
            generalize (ansD R x).2 = R2 at *
            generalize decide ((ansD P x).1 = (ansD R x).1) = bb at *
            clear HDo HO HZO HG HD2
            go_wp2_with (go_at_call 13; refine HDo2.out.mono ?_; rintro e w8 ⟨rfl, h8⟩; have H8 := Lib.hid (h8.drop (Y := [(gb, o)]) fun p hp => List.mem_cons_of_mem _ hp); clear h8)
            go_roundg (20 - (k + 1))
            case measure => omega
            case rel => exact ⟨k + 1, G2, by omega, by omega, rfl, rfl, by go_num, Lib.hid ⟨P2, R2, HA1.out.1, HA1.out.2, HKa.out, H8.out⟩⟩
          · have HAP := Lib.hid (And.intro hAP (And.intro hKI hAR))
            have HD9 := Lib.hid hD
            have hbf : bb = false := by rw [HBB.out]; exact decide_eq_false hlt
            subst hbf
            clear hAP hKI hAR hD hH hlt
            go_upto_region 26 with fail
            (
              obtain ⟨G3, hG3⟩ : ∃ G3, G3 = (gone || P.down) := ⟨_, rfl⟩
              have HG := Lib.hid (HAP.out.1.go (n := 8 + k) (by omega))
              have hKU := HAP.out.2.1.up keep
              rw [← hG3] at hKU
              have hAU := all_up keep HAP.out.1
              obtain ⟨r1, r2, r3⟩ := keepI_read hAU (up_alive P keep).1 hKU
              have HGU := Lib.hid (hAU.go (n := 8 + k) (by omega))
              have HR23 := Lib.hid (And.intro r2 r3)
              have HUp := Lib.hid (fun W (h : HasD w W [(gb, o)] rb R pb P) => hp_up h K m cK keep HG.out HK.out.2.2.2 HK.out.1 (HK.out.1 ▸ HK.out.2.1) HK.out.2.2.1)
              have HRd := Lib.hid (fun W (h : HasD w W [(gb, o)] rb R pb (upD P keep)) => by
                have k := hp_read h mN HGU.out (by decide)
                rw [r1] at k
                exact k)
              generalize upD P keep = U at *
              have HG3 := Lib.hid hG3
              have HAl := hp_alive HD9.out HG.out
              obtain ⟨dn, hdn⟩ : ∃ dn, dn = P.down := ⟨_, rfl⟩
              rw [← hdn] at HAl HG3
              have HAl := Lib.hid HAl
              clear hdn hG3 hKU hAU r1 r2 r3 HAP
              go_cut [14] from 112 to 117 (fun v wx => v = .bool G3 ∧ HasD w wx [(gb, o)] rb R pb P)
              case first =>
                cases gone with
                | true =>
                  go_wp2_with fail
                  go_meet
                  case rel => exact ⟨by rw [HG3.out, Bool.true_or], HD9.out⟩
                | false =>
                  go_wp2_with (go_at_call 20; refine HAl.out.mono ?_; rintro e w7 ⟨rfl, h7⟩; have H7 := Lib.hid h7; clear h7)
                  go_meet
                  case rel => exact ⟨by rw [HG3.out]; try simp, H7.out⟩
              case rest =>
              obtain ⟨rfl, hD2⟩ := hcut
              have HD2 := Lib.hid hD2
              clear hD2 HAl HD9
              go_upto_region 28 with (go_at_call 21; refine (HUp.out _ HD2.out).mono ?_; rintro e w8 ⟨rfl, h8⟩; have H8 := Lib.hid h8; clear h8)
              go_upto_region 29 with (go_at_call 15; refine (HRd.out _ H8.out).mono ?_; rintro e w9 ⟨S9, c9, Y9, rfl, o9, h9, -⟩; have H9 := Lib.hid (And.intro o9 (h9.drop (Y := [(gb, o)]) fun p hp => List.mem_append_right _ hp)); clear o9 h9)
              clear HUp HRd HD2 H8 HGU HG
              have hrow9 := own_block HRow.out (W' := w9) (fun g hg => by
                cases hg
                rw [H9.out.2.stands (List.mem_singleton.2 rfl), HStands.out])
              have HB9 := Lib.hid H9.out.2.below
              have hown := H9.out.1
              obtain ⟨hst, -, hcc⟩ := own_strs hrow9
              generalize readT U mN = T at *
              have hcv := fun d => conv_own (show (w9.drewN d).ownsRow _ _ _ _ _ _ from hown)
              rw [str_txt] at hcv
              have hcv0 := conv_own hown
              rw [str_txt] at hcv0
              have HC0 := Lib.hid hcv0
              have HCv := Lib.hid hcv
              clear hcv0
              have HSt := Lib.hid hst
              clear hcv hown hst hrow9 H9
              cases G3 with
              | false =>
                have hTa : T = all := by rw [HR23.out.1 rfl, ← HAll.out]
                subst hTa
                have hcv0 := HC0.out
                go_wp2_with (go_at_call 12; refine (lives13 _).mono ?_; rintro e w10 ⟨rfl, h10⟩; have H10 := Lib.hid h10; clear h10)
                go_ret
                exact ⟨by first | rfl | simp, HB9.out.trans (H10.out.mono HB9.out.size)⟩
              | true =>
                obtain ⟨q, hq, hqT⟩ := HR23.out.2 rfl
                rw [← HiP.out] at hq
                have HqT := Lib.hid hqT
                clear hqT
                go_upto_block 4 with fail
                go_wp2_with fail
                go_loopg [19] (i + 1) (fun g j wr => ∃ k : Nat, k ≤ q ∧ g = i + 1 - k ∧ j = .int .i64 (k : Int) ∧ Hid (∃ d, wr = w9.drewN d))
                case atStart => exact ⟨0, by omega, rfl, rfl, Lib.hid ⟨0, rfl⟩⟩
                case round =>
                  obtain ⟨k, hkq, rfl, rfl, hJ⟩ := hrel
                  obtain ⟨d, rfl⟩ := hJ.out
                  have hki : (k : Int) < ((i : Int) + 1) := by omega
                  have hki1 : (k : Int) < ((i + 1 : Nat) : Int) := by omega
                  obtain ⟨M, hM⟩ : ∃ M, M = joinP s (PS.take k) := ⟨_, rfl⟩
                  obtain ⟨ad3, hS3, -, hc3⟩ := HSt.out k M (by rw [mayL, List.getElem?_map, List.getElem?_range (by omega), hM]; rfl)
                  cases hS3
                  have f2 : w9.cell? ⟨gb, k, none⟩ = some (.string M) := by
                    by_cases h0 : k = 0
                    · subst h0
                      exact hc3
                    · simpa [Addr.add, h0] using hc3
                  have f3 : (w9.drewN d).cell? ⟨gb, k, none⟩ = some (.string M) := f2
                  have f1 : ∀ n, (convert 33 9 (.slice S9 T.size c9)).run Try.prog (w9.drewN (d + n)) = .ok (.string T) (w9.drewN (d + n)) := fun n => HCv.out _
                  have HBd := Lib.hid (show Below w.heap.size w (w9.drewN d) from HB9.out.trans (below_drewN (Below.refl _ _) d))
                  clear hc3 hJ
                  by_cases hTM : T = M
                  · subst hTM
                    clear hM
                    go_upto_region 36 with fail
                    go_quiet (fail)
                    go_wp2_with (go_at_call 12; refine (lives13 _).mono ?_; rintro e w10 ⟨rfl, h10⟩; have H10 := Lib.hid h10; clear h10)
                    go_ret
                    have j := HB9.out.trans ((below_drewN (Below.refl w9.heap.size w9) (d + nq)).mono HB9.out.size)
                    exact ⟨by first | rfl | simp, j.trans (H10.out.mono j.size)⟩
                  · have hnq := toList_ne hTM
                    have hkn : k ≠ q := fun e => hTM (by rw [hM, e, HqT.out])
                    have HN := Lib.hid hM
                    clear hTM hM
                    go_upto_region 36 with fail
                    go_quiet (fail)
                    go_wp2_with fail
                    go_roundg (i + 1 - (k + 1))
                    case measure => omega
                    case rel => exact ⟨k + 1, by omega, rfl, by go_num, Lib.hid ⟨_, by first | rfl | exact World.drewN_drewN _ _ _⟩⟩))
end Go.Proofs.Ytaijjjlpbpogfaa
