/- The walk of KvKeys. How a law ends: it is true, and nothing that was there has changed; its arguments read again. What KvRoom holds: mathematics. -/
import Derived.Test.YtmblbogpkdkncaaGreatMT14Lives
import Derived.Test.YtmblbogpkdkncaaGreatMT14RCut
import Derived.Test.YtmblbogpkdkncaaGreatMT13M
import Derived.Test.YtmblbogpkdkncaaGreatRows
import Derived.Deep.DeepHandedRow
import Derived.ChangeMaps5
namespace Go.Proofs.YtmblbogpkdkncaaGreat
open Go.RowKit

theorem cutW_few {b : List Wr} : ∀ x ∈ cutW b, x.key.size ≤ 210 ∧ x.val.size ≤ 100 := fun x hx => by
  obtain ⟨y, -, rfl⟩ := List.mem_map.1 hx
  unfold cut1
  constructor
  · show (if y.key.size > 210 then y.key.extract 0 210 else y.key).size ≤ 210
    split
    · rw [ByteArray.size_extract]; omega
    · omega
  · show (if y.val.size > 100 then y.val.extract 0 100 else y.val).size ≤ 100
    split
    · rw [ByteArray.size_extract]; omega
    · omega
theorem cutW_length (b : List Wr) : (cutW b).length ≤ 5 := by
  unfold cutW
  rw [List.length_map, List.length_take]
  omega
theorem cost_few : ∀ {l : List Wr}, (∀ x ∈ l, x.key.size ≤ 210 ∧ x.val.size ≤ 100) → costW l ≤ 374 * l.length + 64
  | [], _ => by decide
  | x :: l, h => by
    have h1 := cost_few (l := l) fun y hy => h y (List.mem_cons_of_mem _ hy)
    have h2 := h x (List.mem_cons_self ..)
    have e : costW (x :: l) = x.key.size + x.val.size + 64 + costW l := by unfold costW; simp; omega
    rw [e, List.length_cons]
    omega
/-- A batch is done, or refused. -/
theorem hk_apply1 {w0 W : World} {Y : Nat → Prop} {b ps : Nat} {n : ByteArray} {l : List Wr} {q : Nat} {u : Option Int} {S : List Site} (h : HasK w0 W Y ((b, ⟨[(n, l)], q, u⟩, [(ps, n, l)]) :: S)) (X : Option Addr) (m c : Nat) (ws : List Wr) (hX : WrIn W X ws) (hf : Beside w0 Y X) (hm : m = ws.length) (hm1 : m ≤ 100) (hr : costW ws ≤ q) :
    Calls Tryz.prog 11 #[.pointer (some ⟨ps, 0, none⟩), .slice X m c] W (fun e w' => e = .returned (.int .i64 (if ws.all mayW = true then 0 else 1)) ∧ ∃ q' u', q ≤ q' + costW ws ∧ LeftK w0 W Y ((b, ⟨[(n, if ws.all mayW = true then doW l ws else l)], q', u'⟩, [(ps, n, if ws.all mayW = true then doW l ws else l)]) :: S) w') := by
  cases hw : ws.all mayW with
  | true =>
    refine (hk_apply h (i := 0) rfl (liesAt_one n l q u).symm X m c ws hX hf hm hm1 hw hr).mono fun e w' ⟨k1, k2⟩ => ⟨k1, q - costW ws, none, by omega, ?_⟩
    rw [apply_one] at k2
    exact k2
  | false =>
    exact (hk_apply_bad h (i := 0) rfl (liesAt_one n l q u).symm X m c ws hX hf hm hm1 hr hw).mono fun e w' ⟨k1, k2⟩ => ⟨k1, q, u, by omega, k2⟩
/-- A new drive with a store of the name a. -/
theorem first_site {w W : World} {b ps : Nat} {q : Nat} {n : ByteArray} {Y : Nat → Prop} {S : List Site} (h : HasK w W Y ((b, openK ⟨[], q, some 0⟩ n, ([] : List Sk) ++ [(ps, n, liesAt ⟨[], q, some 0⟩ n)]) :: S)) : HasK w W Y ((b, ⟨[(n, [])], q, none⟩, [(ps, n, [])]) :: S) := h
/-- A row that a callee made is the law's. -/
theorem own_beside {w0 W w' : World} {Y : Nat → Prop} {S : List Site} (h : HasK w0 W Y S) {ts : List Wr} {v : Value} (ha : AccWr W w' v ts) :
    ∃ X c, v = .slice X ts.length c ∧ ts.length ≤ c ∧ c ≤ maxLen ∧ WrIn w' X ts ∧ Beside w0 (fun k => Y k ∨ (W.heap.size ≤ k ∧ k < w'.heap.size)) X ∧ HasK w0 w' (fun k => Y k ∨ (W.heap.size ≤ k ∧ k < w'.heap.size)) S := by
  obtain ⟨X, c, hv, h1, h2, h3⟩ := ha.form
  subst hv
  exact ⟨X, c, rfl, h1, h2, h3, fun a hX => .inl (.inr (ha.at a hX)), h.new ha.2⟩
theorem keysW_next {l : List Wr} {k : Nat} {x : Wr} (h : l[k]? = some x) (p : ByteArray) : keysW (l.take (k + 1)) p = keysW (l.take k) p ++ (if preB x.key p = true then [x.key] else []) := by
  unfold keysW
  rw [List.take_add_one, h, List.filter_append, List.map_append]
  congr 1
  cases hp : preB x.key p <;> simp [hp]
theorem keysW_at {l : List Wr} {k : Nat} {x : Wr} (h : l[k]? = some x) (p : ByteArray) (hp : preB x.key p = true) : (keysW l p)[(keysW (l.take k) p).length]? = some x.key := by
  have e : keysW l p = keysW (l.take (k + 1)) p ++ keysW (l.drop (k + 1)) p := by
    unfold keysW
    rw [← List.map_append, ← List.filter_append, List.take_append_drop]
  rw [e, keysW_next h p, if_pos hp, List.append_assoc, List.getElem?_append_right (Nat.le_refl _), Nat.sub_self]
  rfl
theorem preB_split (s p : ByteArray) : preB s p = (decide (p.size ≤ s.size) && ((s.extract 0 p.size).toList == p.toList)) := by
  unfold preB
  by_cases h1 : p.size ≤ s.size
  · rw [decide_eq_true h1, Bool.true_and]
    by_cases h2 : s.extract 0 p.size = p
    · rw [decide_eq_true ⟨h1, h2⟩, h2]
      exact (beq_self_eq_true _).symm
    · rw [decide_eq_false (fun h => h2 h.2), toList_neW h2]
  · rw [decide_eq_false (fun h => h1 h.1), decide_eq_false h1, Bool.false_and]
theorem keysW_full {l : List Wr} (p : ByteArray) {k : Nat} (hk : l.length ≤ k) : keysW (l.take k) p = keysW l p := by rw [List.take_of_length_le hk]
set_option maxRecDepth 100000 in
set_option maxHeartbeats 4000000 in
theorem keys_law (A : Option Addr) (c : Nat) (xs : List Wr) (pr : ByteArray) (w : World) (hX : WrIn w A xs) (hc : xs.length ≤ c) (hcm : c ≤ maxLen) (hs : ∀ x ∈ xs, x.key.size ≤ 9223372036854775807 ∧ x.val.size ≤ 9223372036854775807) (_ : pr.size ≤ 9223372036854775807) :
    Calls Tryz.prog 5 #[.slice A xs.length c, .string pr] w (fun e w' => e = .returned (.bool true) ∧ Below w.heap.size w w') := by
  have HN := Lib.hid (hk_new (no_sites w) 100000 (by decide) (by decide))
  have HX := Lib.hid (And.intro hX (And.intro hc (And.intro hcm hs)))
  obtain ⟨n, hn⟩ : ∃ n, n = xs.length := ⟨_, rfl⟩
  have HNn := Lib.hid hn
  rw [← hn]
  clear hX hc hcm hs hn
  go_enter Tryz.func5, Tryz.ntmps5
  go_upto_region 2 with (first
    | (go_at_call 7; refine HN.out.mono ?_; rintro e w1 ⟨b, rfl, h1⟩; have H1 := Lib.hid (hk_open h1.1 aN aN_ok); clear h1)
    | (go_at_call 8; refine H1.out.mono ?_; rintro e w2 ⟨ps, rfl, h2⟩; have H2 := Lib.hid (first_site h2.1); clear h2))
  clear H1 HN
  have hCt := rcut14_any A c xs w2 (HX.out.1.on H2.out.below) HX.out.2.1 HX.out.2.2.1 HX.out.2.2.2
  rw [← HNn.out] at hCt
  have HCt := Lib.hid hCt
  clear hCt
  go_upto_region 5 with (go_at_call 9; refine HCt.out.mono ?_; rintro e w3 ⟨v, rfl, ha⟩; obtain ⟨X3, c3, rfl, -, hc3m, hw3, hb3, hh3⟩ := own_beside H2.out ha; have H3 := Lib.hid (And.intro hc3m (And.intro hw3 (And.intro hb3 hh3))); clear ha hc3m hw3 hb3 hh3)
  clear HCt
  obtain ⟨ct, hct⟩ : ∃ ct, ct = cutW xs := ⟨_, rfl⟩
  have HCf := Lib.hid (show (∀ x ∈ ct, x.key.size ≤ 210 ∧ x.val.size ≤ 100) ∧ ct.length ≤ 5 by rw [hct]; exact ⟨cutW_few, cutW_length xs⟩)
  rw [← hct] at H3 ⊢
  clear hct
  obtain ⟨m, hm⟩ : ∃ m, m = ct.length := ⟨_, rfl⟩
  have HM := Lib.hid hm
  rw [← hm]
  have hm5 : m ≤ 5 := by have := HCf.out.2; omega
  clear hm
  have HAp := Lib.hid (hk_apply1 H3.out.2.2.2 X3 m c3 ct H3.out.2.1 H3.out.2.2.1 HM.out (by omega) (by have := cost_few HCf.out.1; have := HCf.out.2; show costW ct ≤ Int.toNat 100000; rw [show Int.toNat 100000 = 100000 from rfl]; omega))
  obtain ⟨L, hL⟩ : ∃ L, L = if ct.all mayW = true then doW [] ct else [] := ⟨_, rfl⟩
  rw [← hL] at HAp
  have HL := Lib.hid hL
  obtain ⟨mm, hmm⟩ : ∃ mm, mm = ct.all mayW := ⟨_, rfl⟩
  rw [← hmm] at HAp HL
  have HL1 := Lib.hid (show L.length ≤ 5 by
    rw [hL]
    have h1 := doW_length [] ct
    have h2 := HCf.out.2
    simp only [List.length_nil] at h1
    split
    · omega
    · exact Nat.zero_le _)
  obtain ⟨f, hf⟩ : ∃ f : Int, f = if mm = true then 0 else 1 := ⟨_, rfl⟩
  rw [← hf] at HAp
  have HF := Lib.hid hf
  clear hL hmm hf
  go_upto_region 6 with (go_at_call 11; refine HAp.out.mono ?_; rintro e w4 ⟨rfl, q', u', -, h4⟩; have H4 := Lib.hid h4; clear h4)
  have hW4 : WrIn w4 X3 ct := H3.out.2.1.kept (H4.out.kept H3.out.2.2.2.below H3.out.2.2.1)
  have HW4 := Lib.hid hW4
  have HBe := Lib.hid H3.out.2.2.1
  have HM3 := Lib.hid H3.out.1
  clear HAp hW4
  obtain ⟨Y3, hY3⟩ : ∃ Y3 : Nat → Prop, Y3 = fun k => False ∨ (w2.heap.size ≤ k ∧ k < w3.heap.size) := ⟨_, rfl⟩
  have h4 : HasK w w4 Y3 [(b, ⟨[(aN, L)], q', u'⟩, [(ps, aN, L)])] := by rw [hY3]; exact H4.out.1
  have H4b := Lib.hid h4
  clear hY3 h4 H4 H3 H2
  go_upto_if 30 with fail
  go_cut [8] from 31 to 32 (fun v wx => ∃ (Z : Option Addr) (c8 : Nat), v = .slice Z (List.length L) c8 ∧ WrIn wx Z L ∧ ∃ Y4 : Nat → Prop, HasK w wx Y4 [(b, ⟨[(aN, L)], q', u'⟩, [(ps, aN, L)])] ∧ Beside w Y4 Z)
  case first =>
    cases mm with
    | true =>
      have hf0 : f = 0 := HF.out
      subst hf0
      have hDo := rdo_any none X3 0 c3 [] ct w4 (fun i t ht => by simp at ht) HW4.out (Nat.le_refl _) (Nat.zero_le _) (by have := HCf.out.2; simp; omega)
      rw [← show L = doW [] ct from HL.out, ← HM.out] at hDo
      have HDo := Lib.hid hDo
      clear hDo
      go_wp2_with (go_at_call 12; refine HDo.out.mono ?_; rintro e w5 ⟨Z, c8, rfl, k1, k2, k3, k4, k5⟩; have H5 := Lib.hid (And.intro k3 (And.intro k4 k5)); clear k1 k2 k3 k4 k5)
      go_meet
      case rel => exact ⟨Z, c8, rfl, H5.out.1, _, H4b.out.new H5.out.2.1, fun a ha => by
        rcases H5.out.2.2 a ha with h | h
        · exact .inl (.inr h)
        · cases h⟩
    | false =>
      have hf0 : f = 1 := HF.out
      subst hf0
      have hL0 : L = [] := HL.out
      subst hL0
      go_wp2_with fail
      go_meet
      case rel => exact ⟨none, 0, rfl, fun i t ht => (by simp at ht), Y3, H4b.out, fun a ha => by cases ha⟩
  case rest =>
  obtain ⟨Z, c8, rfl, hZ, Y4, hH, hBs⟩ := hcut
  have HZ := Lib.hid (And.intro hZ hBs)
  have HK := Lib.hid (hk_keys hH (i := 0) rfl pr)
  have HB5 := Lib.hid hH.below
  clear hZ hH hBs H4b
  obtain ⟨KL, hKL⟩ : ∃ KL, KL = (keysW L pr).length := ⟨_, rfl⟩
  rw [← hKL] at HK
  obtain ⟨nL, hnL⟩ : ∃ nL, nL = L.length := ⟨_, rfl⟩
  rw [← hnL]
  have HQ := Lib.hid (And.intro hKL hnL)
  clear hKL hnL
  go_upto_region 10 with (go_at_call 18; refine HK.out.mono ?_; rintro e w6 ⟨KX, kc, rfl, ho, hl6, -⟩; have H6 := Lib.hid (And.intro hl6 ho); clear ho hl6)
  have hW6 : WrIn w6 Z L := HZ.out.1.kept (H6.out.1.kept HB5.out HZ.out.2)
  have hS6 : StrsIn w6 KX (keysW L pr) := by
    have h := H6.out.2
    rw [HQ.out.1] at h
    exact (own_strs14 h).1
  have HR := Lib.hid (And.intro hW6 hS6)
  have HB6 := Lib.hid H6.out.1.1.below
  have HKs := Lib.hid (show ∀ x ∈ L, x.key.size ≤ 210 from fun x hx => by
    have h := HL.out
    rw [h] at hx
    split at hx
    · rcases mem_do hx with hx | hx
      · cases hx
      · exact (HCf.out.1 x hx).1
    · cases hx)
  have hn5 : nL ≤ 5 := by have := HL1.out; have := HQ.out.2; omega
  have hK5 : KL ≤ 5 := by
    have h1 := HQ.out.1
    have h2 := HL1.out
    have h3 : (keysW L pr).length ≤ L.length := by unfold keysW; rw [List.length_map]; exact List.length_filter_le _ _
    omega
  clear hW6 hS6 H6 HK HZ
  go_upto_block 0 with fail
  go_wp2_with fail
  go_loopg [10, 11, 12] nL (fun g a i _ wr => ∃ k a' : Nat, k ≤ nL ∧ a' ≤ 5 ∧ g = nL - k ∧ i = .int .i64 (k : Int) ∧ a = .int .i64 (a' : Int) ∧ wr = w6 ∧ Hid (a' = (keysW (L.take k) pr).length))
  case atStart => exact ⟨0, 0, by omega, by omega, rfl, rfl, rfl, rfl, Lib.hid rfl⟩
  case round =>
    obtain ⟨k, a', hk, ha5, rfl, rfl, rfl, rfl, hH⟩ := hrel
    by_cases hlt : k < nL
    · have hki : (k : Int) < (nL : Int) := by omega
      obtain ⟨x, hxk⟩ : ∃ x, L[k]? = some x := ⟨L[k]'(by have := HQ.out.2; omega), List.getElem?_eq_getElem _⟩
      obtain ⟨ad, rfl, hab, h3⟩ := HR.out.1 k x hxk
      obtain ⟨x0, -, -⟩ := h3.load (by rw [addr_add_block]; exact hab) (Below.refl wr.heap.size wr)
      have hx5 := HKs.out x (List.mem_of_getElem? hxk)
      have hnx := keysW_next hxk pr
      have hat := keysW_at hxk pr
      have hpb := preB_split x.key pr
      have HXk := Lib.hid hxk
      obtain ⟨xk, hxe⟩ : ∃ xk, xk = x.key := ⟨_, rfl⟩
      rw [← hxe] at x0 hx5 hnx hat hpb
      clear hab h3 hxk hxe
      by_cases h1 : pr.size ≤ xk.size
      · have h1i : ¬ (xk.size : Int) < (pr.size : Int) := by omega
        rw [decide_eq_true h1, Bool.true_and] at hpb
        cases h2 : ((xk.extract 0 pr.size).toList == pr.toList) with
        | true =>
          rw [h2] at hpb
          rw [if_pos hpb] at hnx
          have hq := hat hpb
          rw [← hH.out] at hq
          obtain ⟨kd, rfl, -, y0⟩ := HR.out.2 a' xk hq
          have hal : a' < KL := by rw [HQ.out.1]; exact (List.getElem?_eq_some_iff.1 hq).1
          have hai : (a' : Int) < (KL : Int) := by omega
          have hai2 : ¬ (KL : Int) ≤ (a' : Int) := by omega
          have HNx := Lib.hid (show a' + 1 = (keysW (L.take (k + 1)) pr).length by rw [hnx, List.length_append, hH.out]; rfl)
          clear hnx hat hpb hq hal
          go_wp2_with fail
          go_roundg (nL - (k + 1))
          case measure => omega
          case rel => exact ⟨k + 1, a' + 1, by omega, by omega, rfl, by go_num, by go_num, rfl, HNx⟩
        | false =>
          rw [h2] at hpb
          rw [if_neg (by rw [hpb]; decide), List.append_nil] at hnx
          have HNx := Lib.hid (show a' = (keysW (L.take (k + 1)) pr).length by rw [hnx]; exact hH.out)
          clear hnx hat hpb
          go_wp2_with fail
          go_roundg (nL - (k + 1))
          case measure => omega
          case rel => exact ⟨k + 1, a', by omega, by omega, rfl, by go_num, rfl, rfl, HNx⟩
      · have h1i : (xk.size : Int) < (pr.size : Int) := by omega
        rw [decide_eq_false h1, Bool.false_and] at hpb
        rw [if_neg (by rw [hpb]; decide), List.append_nil] at hnx
        have HNx := Lib.hid (show a' = (keysW (L.take (k + 1)) pr).length by rw [hnx]; exact hH.out)
        clear hnx hat hpb
        go_wp2_with fail
        go_roundg (nL - (k + 1))
        case measure => omega
        case rel => exact ⟨k + 1, a', by omega, by omega, rfl, by go_num, rfl, rfl, HNx⟩
    · have hki : ¬ (k : Int) < (nL : Int) := by omega
      have hae : a' = KL := by rw [HQ.out.1, hH.out, keysW_full pr (by have := HQ.out.2; omega)]
      subst hae
      go_wp2_with (go_at_call 16; refine (lives14 _).mono ?_; rintro e w8 ⟨rfl, h8⟩; have H8 := Lib.hid h8; clear h8)
      go_ret
      exact ⟨by first | rfl | simp, HB6.out.trans (H8.out.mono HB6.out.size)⟩
end Go.Proofs.YtmblbogpkdkncaaGreat
namespace Go.Proofs.YtmblbogpkdkncaaGreat
open Go.ChangeShapes Go.WideShapes Go.ChangeAt Go.RowKit

theorem ownNone : ownKnob Tryz.prog.godebug = none := by kernel_rfl
theorem laidOut' : laidOutB Tryz.prog = true := by kernel_rfl
/-- Arguments of any number read again in a world in which all that was there is there. -/
theorem args_stay {H : Type} {enc : TypeId × Value → H} {W W' : World} {sp : Nat → Bool} : ∀ (ts : List TypeId) (vs : List Value) (ds : List (DataW H)) (p : List MemPlace),
    (∀ t ∈ ts, Tryz.prog.readableRec t = true ∧ t < Tryz.prog.types.size) → DataW.TrodAll enc Tryz.prog W 0 (fun _ => true) true ts vs ds p → (∀ x ∈ p, W.sameAt W' x) → (∀ x ∈ p, sp x.block = true) → DataW.TrodAll enc Tryz.prog W' 0 sp true ts vs ds p
  | [], vs, ds, p, _, h, _, _ => by
    obtain ⟨rfl, rfl, rfl⟩ := trodAll_nil h
    exact trodAll_mk0
  | t :: ts, vs, ds, p, ht, h, hs, hsp => by
    obtain ⟨v0, vs0, d0, ds0, p0, q0, rfl, rfl, rfl, h0, r0⟩ := trodAll_cons h
    exact trodAll_cons_mk (WideElems.Trod_stays laidOut' (ht t (List.mem_cons_self ..)).1 (ht t (List.mem_cons_self ..)).2 h0 (fun x hx => hs x (List.mem_append_left _ hx)) (fun x hx => hsp x (List.mem_append_left _ hx)))
      (args_stay ts vs0 ds0 q0 (fun u hu => ht u (List.mem_cons_of_mem _ hu)) r0 (fun x hx => hs x (List.mem_append_right _ hx)) (fun x hx => hsp x (List.mem_append_right _ hx)))

set_option maxRecDepth 100000 in
/-- THE END OF A LAW: it is true; nothing that was there has changed. -/
theorem law_post {H : Type} {enc : TypeId × Value → H} {f : Func} {s : ChangeSpec} {handsOn again : Bool} {W W' : World} {args : Array Value} {ds : List (DataW H)} {before : List MemPlace}
    (hW : DataW.Whole enc Tryz.prog f.params.toList s.vars false W args.toList ds [] before) (hvars : s.vars = []) (ht : ∀ t ∈ f.params.toList, Tryz.prog.readableRec t = true ∧ t < Tryz.prog.types.size) (hr : f.resultTypes = #[4])
    (hf : s.fn H (ds ++ []) = { results := [.lit (.bool true)], args := ds, vars := [] }) (hb : Below W.heap.size W W') : s.post enc Tryz.prog f false true handsOn again W args (.bool true) W' := by
  have hW' := hW
  have hlt : ∀ x ∈ before, x.block < W.heap.size := fun x hx => hW'.lt x hx
  obtain ⟨p, q, hA, hV, rfl, hfz, hnd⟩ := hW
  rw [hvars] at hV
  obtain ⟨-, rfl⟩ := trodVars_none hV
  rw [List.append_nil] at hW' hlt hfz hnd
  have hsame : ∀ x ∈ p, W.sameAt W' x := fun x hx => hb.same (hlt x hx)
  have hargs : ∀ sp : Nat → Bool, (∀ x ∈ p, sp x.block = true) → DataW.TrodAll enc Tryz.prog W' 0 sp true f.params.toList args.toList ds p := fun sp hsp => args_stay _ _ _ _ ht hA hsame hsp
  have hres : ∀ (b : Nat) (sp : Nat → Bool) (hd : Bool), DataW.TrodAll enc Tryz.prog W' b sp hd f.resultTypes.toList ((Value.bool true).resultList f.resultTypes.size) [.lit (.bool true)] [] := fun b sp hd => by
    rw [hr]
    exact trodAll_cons_mk (shut_bool Tryz.underlying4 _) trodAll_mk0
  have hf' : s.fn H (ds ++ []) = _ := hf
  have hold : ∀ x ∈ p, (fun b => decide (b < W.heap.size)) x.block = true := fun x hx => by simpa using hlt x hx
  have hvar : ∀ sp : Nat → Bool, DataW.TrodVars enc Tryz.prog W' sp s.vars [] [] := fun sp => by rw [hvars]; rfl
  refine ⟨ds, [], p, [], p, [], hW', by rw [hf']; exact hres _ _ _, by rw [hf']; exact hargs _ hold, by rw [hf']; exact hvar _, World.keptBut_mono (fun x hx => ⟨hx, Or.inr (Or.inl hx)⟩) (hb.frame (· ∈ p)), fun _ => ⟨?_, [.lit (.bool true)] ++ ds, [], p, ⟨p, [], ?_, hvar _, by simp, ?_, fun h => by cases h⟩, ?_⟩⟩
  · exact ok_one hr rfl (okWide_bool_mk Tryz.underlying4 _)
  · rw [hr]
    exact trodAll_cons_mk (shut_bool Tryz.underlying4 _) (hargs _ (fun _ _ => rfl))
  · intro b off hx
    rw [hb.frozen (hlt _ hx)]
    exact hfz b off hx
  · exact fun x hx _ => hx

/-- A world for the witness, of a program of which nothing is listed. -/
noncomputable def plainWorld (os : Os) : World := World.holding Tryz.prog os ⟨#[], #[], []⟩
end Go.Proofs.YtmblbogpkdkncaaGreat
namespace Go.Proofs.YtmblbogpkdkncaaGreat
open Go.RowKit

theorem step_done {w x : Wr} {s : List Wr × Bool} (h : s.2 = true) : (stepW w s x).2 = true := by
  obtain ⟨out, dn⟩ := s
  subst h
  rw [stepW_eq]
  split <;> simp
theorem fold_done {w : Wr} : ∀ {l : List Wr} {s : List Wr × Bool}, s.2 = true → (l.foldl (stepW w) s).2 = true
  | [], _, h => h
  | _ :: l, _, h => fold_done (l := l) (step_done h)
theorem gone_rounds {w x : Wr} (hw : w.gone = true) : ∀ {l : List Wr} {s : List Wr × Bool}, s.2 = true → x ∈ (l.foldl (stepW w) s).1 → x ∈ s.1 ∨ x ∈ l
  | [], _, _, h => .inl h
  | y :: l, (out, dn), hd, h => by
    have hd' : dn = true := hd
    subst hd'
    rw [List.foldl_cons] at h
    rcases gone_rounds hw (step_done rfl) h with h | h
    · rw [stepW_eq] at h
      simp only [Bool.not_true, Bool.false_and, Bool.false_eq_true, if_false, Bool.true_or] at h
      split at h
      · exact .inl h
      · rcases List.mem_append.1 h with h | h
        · exact .inl h
        · exact .inr (by rw [List.mem_singleton.1 h]; exact List.mem_cons_self ..)
    · exact .inr (List.mem_cons_of_mem _ h)
/-- What is gone does not come in. -/
theorem mem_one' {w x : Wr} {l : List Wr} (h : x ∈ oneW l w) : x ∈ l ∨ (x = w ∧ w.gone = false) := by
  cases hw : w.gone with
  | false =>
    rcases mem_one h with h | h
    · exact .inl h
    · exact .inr ⟨h, rfl⟩
  | true =>
    unfold oneW at h
    have hd : (roundsW w l).2 = true := fold_done hw
    rw [if_pos hd] at h
    rcases gone_rounds hw (s := ([], w.gone)) hw h with h | h
    · cases h
    · exact .inl h
/-- Keys as they may stand. -/
def GoodW (l : List Wr) : Prop := RiseW l ∧ ∀ x ∈ l, mayW x = true ∧ x.gone = false ∧ x.key.size ≤ 210 ∧ x.val.size ≤ 100
theorem good_one {l : List Wr} (h : GoodW l) {w : Wr} (hm : mayW w = true) (hk : w.key.size ≤ 210 ∧ w.val.size ≤ 100) : GoodW (oneW l w) :=
  ⟨rise_one h.1 w, fun x hx => by
    rcases mem_one' hx with hx | ⟨rfl, hg⟩
    · exact h.2 x hx
    · exact ⟨hm, hg, hk.1, hk.2⟩⟩
theorem good_do : ∀ {b l : List Wr}, GoodW l → (∀ x ∈ b, mayW x = true ∧ x.key.size ≤ 210 ∧ x.val.size ≤ 100) → GoodW (doW l b)
  | [], _, h, _ => h
  | x :: b, _, h, hb => good_do (b := b) (good_one h (hb x (List.mem_cons_self ..)).1 (hb x (List.mem_cons_self ..)).2) fun y hy => hb y (List.mem_cons_of_mem _ hy)
theorem rounds_low {w : Wr} : ∀ {l : List Wr} {out : List Wr}, (∀ x ∈ l, ltB x.key w.key = true) → l.foldl (stepW w) (out, false) = (out ++ l, false)
  | [], out, _ => by simp
  | x :: l, out, h => by
    have hx := h x (List.mem_cons_self ..)
    have e : stepW w (out, false) x = (out ++ [x], false) := by
      rw [stepW_eq, if_neg (ltB_ne hx), hx]
      rfl
    rw [List.foldl_cons, e, rounds_low (fun y hy => h y (List.mem_cons_of_mem _ hy)), List.append_assoc]
    rfl
theorem one_low {l : List Wr} {w : Wr} (hw : w.gone = false) (h : ∀ x ∈ l, ltB x.key w.key = true) : oneW l w = l ++ [w] := by
  unfold oneW roundsW
  rw [hw, rounds_low h]
  rfl
theorem do_good : ∀ {b l : List Wr}, RiseW (l ++ b) → (∀ x ∈ b, x.gone = false) → doW l b = l ++ b
  | [], l, _, _ => (List.append_nil l).symm
  | x :: b, l, h, hg => by
    have e : doW l (x :: b) = doW (oneW l x) b := rfl
    have h1 := one_low (l := l) (hg x (List.mem_cons_self ..)) (fun y hy => (List.pairwise_append.1 h).2.2 y hy x (List.mem_cons_self ..))
    rw [e, h1, do_good (by rw [List.append_assoc]; exact h) (fun y hy => hg y (List.mem_cons_of_mem _ hy)), List.append_assoc]
    rfl
theorem good_again {l : List Wr} (h : GoodW l) : doW [] l = l := do_good (l := []) h.1 fun x hx => (h.2 x hx).2.1
theorem good_may {l : List Wr} (h : GoodW l) : l.all mayW = true := List.all_eq_true.2 fun x hx => (h.2 x hx).1
theorem good_cost {l : List Wr} (h : GoodW l) : costW l ≤ 374 * l.length + 64 := cost_few fun x hx => (h.2 x hx).2.2
theorem one_compact (n : ByteArray) (l : List Wr) (q : Nat) (u : Option Int) : compactK ⟨[(n, l)], q, u⟩ n = ⟨[(n, l)], q - costW l, some (sizeK l : Int)⟩ := by simp [compactK, liesAt]
end Go.Proofs.YtmblbogpkdkncaaGreat
