/- The program's frames: its iterator. maps.Values of held: its iterator. Writes are sorted by their keys: the comparison, and the row behind it. -/
import Derived.Test.YtmblbogpkdkncaaGreatMRangeLawK
import Derived.Shelf.RegionOpen
import Derived.OwnWalkIn
import Derived.TacticsInMore
import Derived.LoopNIn
import Derived.LoopIn
import Derived.Sort.CutIn
import Derived.Sort.LoopGhostIn
import Derived.Test.YtmblbogpkdkncaaGreatMT13RAll
import Derived.Sort.MapsRangeIn
import Derived.Sort.KeysCollected
import Derived.RangeFuncGives
import Derived.Test.YtmblbogpkdkncaaGreatP14Lay
import Derived.Sort.OwnSorted
namespace Go.Proofs.YtmblbogpkdkncaaGreat
open Go.RowKit Go.Shelf
attribute [local go_sem] Oper.semAt_some

/-- Every block of cells lies as it lay. -/
structure KeepsC (W W' : World) : Prop where
  size : W.heap.size ≤ W'.heap.size
  same : ∀ (k : Nat) (o : Obj), W.heap[k]? = some o → o.isCells = true → W'.heap[k]? = some o
theorem KeepsC.trans {A B C : World} (h : KeepsC A B) (k : KeepsC B C) : KeepsC A C := ⟨Nat.le_trans h.size k.size, fun i o hi ho => k.same i o (h.same i o hi ho) ho⟩
theorem keepO_nw {W W' : World} {rb : Nat} {cs : Array Value} {t : TypeId} (h : KeepO (fun x => x = rb) W W') (hr : W.heap[rb]? = some (.cells cs t (0, 0))) : KeepsNW W W' :=
  ⟨h.size, fun k o hk ho _ => by
    have hne : ¬ k = rb := fun e => by subst e; rw [hr] at hk; cases hk; cases ho
    exact (h.block k (Array.getElem?_eq_some_iff.1 hk).1 hne).trans hk⟩
theorem below_nw {W W' : World} (h : Below W.heap.size W W') : KeepsNW W W' := ⟨h.size, fun k _ hk _ _ => (h.block k (Array.getElem?_eq_some_iff.1 hk).1).trans hk⟩
theorem logL_drop (bs : List (List Wr)) (j : Nat) (b : List Wr) (h : bs[j]? = some b) : logL (bs.drop j) = frameL b ++ logL (bs.drop (j + 1)) := by
  have hk := (List.getElem?_eq_some_iff.1 h).1
  have e : bs[j] = b := Option.some.inj ((List.getElem?_eq_getElem hk).symm.trans h)
  rw [List.drop_eq_getElem_cons hk, logL_cons, e]
theorem logL_drop_le (bs : List (List Wr)) (j : Nat) : (logL (bs.drop j)).length ≤ (logL bs).length := by
  conv => rhs; rw [← List.take_append_drop j bs, logL_append, List.length_append]
  omega
set_option maxHeartbeats 1000000 in
set_option maxRecDepth 100000 in
theorem frames_iter (l D : Nat) (bs : List (List Wr)) (hbs : ∀ b ∈ bs, b ≠ [] ∧ b.all mayW = true) (hl : (logL bs).length ≤ 2147483648) (N : Nat) (J : Nat → World → Prop)
    (hJ : ∀ j r W W', J j W → N ≤ r → KeepO (fun x => x = r) W W' → J j W') (BB : World → Prop) (hBB : ∀ A A', BB A → KeepsNW A A' → BB A')
    (hY : ∀ j b Y c W1, bs[j]? = some b → J j W1 → WrIn W1 Y b → (∀ a, Y = some a → N ≤ a.block) → BB W1 → YieldAt Fence.wide 5 Tryz.prog l #[.slice Y b.length c, .bool true] W1 fun e W' => e = .returned (.bool true) ∧ J (j + 1) W' ∧ BB W' ∧ KeepsC W1 W')
    (W : World) (hN : N ≤ W.heap.size) (hD : W.cell? ⟨D, 0, none⟩ = some (.string (strOfNums (logL bs)))) (h0 : J 0 W) (hB0 : BB W) :
    CallsIn Fence.wide 6 Tryz.prog 90 #[.func (.yield l) #[] #[], .pointer (some ⟨D, 0, none⟩)] W fun e W' => (∃ v, e = .returned v) ∧ J bs.length W' ∧ BB W' := by
  refine callsIn_of_wp Tryz.func90 rfl trivial ?_ rfl
  simp only [Tryz.ntmps90, List.size_toArray, List.length_cons, List.length_nil, Nat.reduceAdd, Nat.reduceSub, Array.replicate_succ, Array.replicate_zero, List.push_toArray, List.append_toArray, List.nil_append, List.cons_append]
  have HH := Lib.hid (And.intro hbs (And.intro hl (And.intro hJ (And.intro hBB hY))))
  obtain ⟨W1, hW1⟩ : ∃ W1, W1 = W.alloc (.cells #[.string (strOfNums (logL bs)), .bool false] 119) := ⟨_, rfl⟩
  have hb : Below W.heap.size W W1 := by rw [hW1]; exact (Below.refl _ _).alloc (Nat.le_refl _) _
  have H0 := Lib.hid (show RdAt W1 W.heap.size (logL bs) ∧ J 0 W1 ∧ BB W1 from ⟨by rw [hW1]; exact heap_alloc_new W _, hJ 0 N W W1 h0 (Nat.le_refl _) (KeepO.of hb), hBB _ _ hB0 (below_nw hb)⟩)
  have HW := Lib.hid hW1
  clear hbs hl hJ hBB hY h0 hB0 hb hW1
  gi_wp2_with fail
  rw [← HW.out]
  obtain ⟨rb, hrb⟩ : ∃ rb, rb = W.heap.size := ⟨_, rfl⟩
  rw [← hrb] at H0 hN ⊢
  clear HW hD
  obtain ⟨M, hM⟩ : ∃ M, M = bs.length := ⟨_, rfl⟩
  have HM := Lib.hid hM
  clear hM hrb
  gi_loopg [4] M (fun g _ wr => ∃ j, j ≤ M ∧ g = M - j ∧ Hid (RdAt wr rb (logL (bs.drop j)) ∧ J j wr ∧ BB wr))
  case atStart => exact ⟨0, by omega, rfl, H0⟩
  case round =>
    obtain ⟨j, hj, rfl, HR⟩ := hrel
    obtain ⟨c0, c1, -, -⟩ := HR.out.1.cells
    have HZ := Lib.hid (size_str (logL (bs.drop j)))
    by_cases hlt : j < M
    · obtain ⟨b, hb⟩ : ∃ b, bs[j]? = some b := ⟨bs[j]'(by have := HM.out; omega), List.getElem?_eq_getElem _⟩
      have HBj := Lib.hid hb
      have hbm := HH.out.1 b (List.mem_of_getElem? hb)
      have hbd := logL_drop bs j b hb
      have hle := Nat.le_trans (logL_drop_le bs j) HH.out.2.1
      have hsz : (0 : Int) < ((strOfNums (logL (bs.drop j))).size : Int) := by
        rw [HZ.out, hbd, List.length_append, frameL_length]
        omega
      have FR := Lib.hid (frame_p (us := logL (bs.drop (j + 1))) (by have := HR.out.1; rw [hbd] at this; exact this) (logL_bytes _) hbm.1 hbm.2 (by rw [← hbd]; exact hle))
      clear hb hbm hbd hle
      gi_wp2_with (refine ⟨trivial, ?_⟩; gi_at_call 91; refine (callsIn_wide.2 FR.out).mono ?_; rintro e w1 ⟨Y, c, rfl, h1, h2, h3, h4⟩; have H1 := Lib.hid (And.intro h1 (And.intro h2 (And.intro h3 h4))); obtain ⟨d0, d1, -, -⟩ := h1.cells; obtain ⟨fn, tmps, assign, body, hy, hRo⟩ := HH.out.2.2.2.2 j b Y c w1 HBj.out (HH.out.2.2.1 j rb wr w1 HR.out.2.1 hN h2) h3 (fun a ha => Nat.le_trans (Nat.le_trans hN (Nat.le_of_lt HR.out.1.lt)) (h4 a ha)) (HH.out.2.2.2.1 _ _ HR.out.2.2 (keepO_nw h2 HR.out.1)); have HRo := Lib.hid hRo; clear h1 h2 h3 h4 hRo c0 c1)
      refine HRo.out.mono ?_
      rintro e W4 ⟨rfl, hJ4, hB4, hK4⟩
      have H4 := Lib.hid (show RdAt W4 rb (logL (bs.drop (j + 1))) ∧ J (j + 1) W4 ∧ BB W4 from ⟨hK4.same _ _ H1.out.1 rfl, hJ4, hB4⟩)
      clear hJ4 hB4 hK4 hy
      gi_wp2
      gi_roundg (M - (j + 1))
      case measure => omega
      case rel => exact ⟨j + 1, by omega, rfl, H4⟩
    · have hsz : ¬ (0 : Int) < ((strOfNums (logL (bs.drop j))).size : Int) := by
        rw [HZ.out, List.drop_eq_nil_of_le (by have := HM.out; omega)]
        simp [logL]
      have HE := Lib.hid (show J bs.length wr ∧ BB wr from by have := HR.out.2; rwa [show j = bs.length by have := HM.out; omega] at this)
      gi_wp2_with fail
      go_end0
      exact ⟨⟨_, rfl⟩, HE.out⟩
set_option maxHeartbeats 400000 in
theorem frames_p (s : ByteArray) (w : World) :
    Calls Tryz.prog 56 #[.string s] w fun e w' =>
      e = .returned (.func (.func 90) #[] #[.pointer (some ⟨w.heap.size, 0, none⟩)]) ∧ w' = w.alloc (.cells #[.string s] 9) := by
  go_enter Tryz.func56, Tryz.ntmps56
  go_wp2
  go_ret
  exact ⟨rfl, rfl⟩
end Go.Proofs.YtmblbogpkdkncaaGreat
namespace Go.Proofs.YtmblbogpkdkncaaGreat
open Go.RowKit Go.Shelf Go.Maps Go.Sort
attribute [local go_sem] Oper.semAt_some

/-- These writes have come out of L, those that left tells are still to come. -/
structure ComeI (L : List Wr) (left : Lit → Bool) (vs : List Wr) : Prop where
  old : ∀ x ∈ vs, x ∈ L ∧ left (keyW x.key) = false
  rest : ∀ x ∈ L, x ∉ vs → left (keyW x.key) = true
  one : vs.Pairwise fun a b => a.key ≠ b.key
theorem keyW_str {s : ByteArray} {kl : Lit} (h : keyOf Tryz.prog 9 (.string s) = some kl) : kl = keyW s := by
  obtain ⟨x, hx, rfl, -⟩ := Go.Maps.keyOf_str Tryz.underlying9 h
  have hs : s = ⟨x.toArray⟩ := by simpa [encStr] using hx
  subst hs
  simp [keyW]
theorem sameW (a b : ByteArray) : (keyW a).sameKey (keyW b) = decide (a = b) := by
  by_cases e : a = b
  · subst e
    simp [keyW, Lit.sameKey]
  · have h := keyW_ne e
    rw [decide_eq_false e]
    cases h2 : (keyW a).sameKey (keyW b) with
    | false => rfl
    | true =>
      exfalso
      unfold keyW Lit.sameKey at h2
      simp at h2
      exact e (ByteArray.ext (Array.toList_inj.1 (by first | exact h2 | exact congrArg Array.toList h2)))
theorem ComeI.start {W : World} {m : Nat} {L : List Wr} {T : DataW Unit} (h : MapT W m L T) : ComeI L (Go.Maps.has T) [] :=
  ⟨(fun x hx => by cases hx), (fun x hx _ => by rw [h.has, lk_of h.rise hx]; rfl), List.Pairwise.nil⟩
theorem ComeI.step {W : World} {m : Nat} {L vs : List Wr} {T : DataW Unit} {left : Lit → Bool} (hm : MapT W m L T) (h : ComeI L left vs) {s : ByteArray} {c : Wr} {d : DataW Unit} (hl : left (keyW s) = true) (hat : ∀ z, T.atKey (keyW s) z = d) (hd : d = wrD c) :
    c ∈ L ∧ ComeI L (fun z => left z && !z.sameKey (keyW s)) (vs ++ [c]) := by
  have hs : ∃ x, lkW L s = some x := by
    cases e : lkW L s with
    | some x => exact ⟨x, rfl⟩
    | none =>
      exfalso
      have h1 := (hm.none e (.lit (.bool true))).symm.trans (hat _)
      have h2 := (hm.none e (.lit (.bool false))).symm.trans (hat _)
      have h3 := h1.trans h2.symm
      injection h3 with h3
      injection h3 with h3
      cases h3
  obtain ⟨x, hx⟩ := hs
  obtain ⟨hxL, hxk⟩ := lk_mem hx
  have hxc : x = c := by
    have h1 := hm.at_ x hxL (.lit (.bool true))
    rw [hxk, hat, hd] at h1
    exact (wrD_inj h1).symm
  subst hxc
  refine ⟨hxL, ⟨fun y hy => ?_, fun y hyL hy => ?_, ?_⟩⟩
  · rcases List.mem_append.1 hy with hy | hy
    · obtain ⟨h1, h2⟩ := h.old y hy
      exact ⟨h1, by rw [h2]; rfl⟩
    · rw [List.mem_singleton.1 hy]
      refine ⟨hxL, ?_⟩
      show (left _ && !(keyW x.key).sameKey (keyW s)) = false
      rw [sameW, decide_eq_true hxk]
      simp
  · have h1 := h.rest y hyL fun hy2 => hy (List.mem_append_left _ hy2)
    show (left _ && !(keyW y.key).sameKey (keyW s)) = true
    rw [h1, sameW, decide_eq_false]
    · rfl
    · intro e
      refine hy (List.mem_append_right _ (List.mem_singleton.2 ?_))
      have h2 := lk_of hm.rise hyL
      have h3 := lk_of hm.rise hxL
      rw [e] at h2
      rw [hxk] at h3
      exact Option.some.inj (h2.symm.trans h3)
  · rw [List.pairwise_append]
    refine ⟨h.one, List.pairwise_singleton _ _, fun a ha b hb => ?_⟩
    rw [List.mem_singleton.1 hb]
    intro e
    have h1 := (h.old a ha).2
    rw [e, hxk, hl] at h1
    cases h1
/-- All have come. -/
def AllV (L vs : List Wr) : Prop := (∀ x, x ∈ vs ↔ x ∈ L) ∧ vs.Pairwise fun a b => a.key ≠ b.key
theorem ComeI.all {L vs : List Wr} {left : Lit → Bool} (h : ComeI L left vs) (hl : ∀ z, left z = false) : AllV L vs :=
  ⟨fun x => ⟨fun hx => (h.old x hx).1, fun hx => Classical.byContradiction fun hn => by have := h.rest x hx hn; rw [hl] at this; cases this⟩, h.one⟩
set_option maxHeartbeats 1000000 in
set_option maxRecDepth 100000 in
theorem values_iter (l D m : Nat) (L : List Wr) (T : DataW Unit) (N : Nat) (J : List Wr → World → Prop) (hJ : OwnFrom N J) (BB : World → Prop) (hBB : ∀ A A', BB A → KeepsNW A A' → BB A')
    (hY : ∀ pre x W1, J pre W1 → pre.length < L.length → BB W1 → YieldAt Fence.wide 5 Tryz.prog l #[wrV x] W1 fun e W' => e = .returned (.bool true) ∧ J (pre ++ [x]) W' ∧ BB W' ∧ KeepsWalks W1 W')
    (W : World) (hN : N ≤ W.heap.size) (hD : W.cell? ⟨D, 0, none⟩ = some (.map (some m))) (hm : MapT W m L T) (h0 : J [] W) (hB0 : BB W) :
    CallsIn Fence.wide 6 Tryz.prog 107 #[.func (.yield l) #[] #[], .pointer (some ⟨D, 0, none⟩)] W fun e W' => (∃ v, e = .returned v) ∧ (∃ vs, AllV L vs ∧ J vs W') ∧ BB W' := by
  refine callsIn_of_wp Tryz.func107 rfl trivial ?_ rfl
  simp only [Tryz.ntmps107, List.size_toArray, List.length_cons, List.length_nil, Nat.reduceAdd, Nat.reduceSub, Array.replicate_succ, Array.replicate_zero, List.push_toArray, List.append_toArray, List.nil_append, List.cons_append]
  have HH := Lib.hid (And.intro hJ (And.intro hBB (And.intro hY (And.intro hm (And.intro h0 (And.intro hB0 hN))))))
  have HM := Lib.hid hm.map
  clear hJ hBB hY hm h0 hB0 hN
  gi_wp2_with (gi_at_range; refine wpListIn_range_own _ rfl _ 53 rfl 9 40 keyM Tryz.underlying53 _ m L.length T rfl HM.out ?_; intro w0 hrg0 hg0 hs0)
  go_frame
  have HR0 := Lib.hid (And.intro hrg0 hg0)
  clear hrg0 hg0 hs0 hD
  gi_loopg [4] L.length (fun g _ wr => ∃ (left : Lit → Bool) (vs : List Wr), Hid (wr.ranges Tryz.prog 9 wrElem m W.heap.size L.length T left g ∧ vs.length + g ≤ L.length ∧ ComeI L left vs ∧ J vs wr ∧ BB wr))
  case atStart =>
    refine ⟨_, [], Lib.hid ⟨by have := HR0.out.1; rwa [HH.out.2.2.2.1.sz] at this, by simp, ComeI.start HH.out.2.2.2.1, HH.out.1 [] W w0 none HH.out.2.2.2.2.1 HR0.out.2 (fun r e => by cases e), HH.out.2.1 _ _ HH.out.2.2.2.2.2.1 ⟨HR0.out.2.size, fun k o hk _ _ => (HR0.out.2.block k (Array.getElem?_eq_some_iff.1 hk).1 (by simp)).trans hk⟩⟩⟩
  case round =>
    obtain ⟨left, vs, HR⟩ := hrel
    gi_wp2_with (gi_at_next; refine wpListIn_next_ranges _ rfl _ rfl 9 keyM wrElem Value.string wrV (fun key kl hk => Go.Maps.keyOf_string_inv Tryz.underlying9 hk) (fun v y hv => by obtain ⟨t, ht, -⟩ := wrElem_inv hv; exact ⟨t, ht⟩) m W.heap.size L.length T left gk rfl HR.out.1 ?_ ?_)
    · intro hc0 hl0
      have HE := Lib.hid (show (∃ vs, AllV L vs ∧ J vs wr) ∧ BB wr from ⟨⟨vs, HR.out.2.2.1.all hl0, HR.out.2.2.2.1⟩, HR.out.2.2.2.2⟩)
      clear hc0 hl0
      gi_wp2
      go_end0
      exact ⟨⟨_, rfl⟩, HE.out⟩
    · intro s c kl yd yp w2 cnt2 hkey hlk hv hat hrg2 hlt hg2 hs2 hen
      obtain rfl := keyW_str hkey
      have hyd : yd = wrD c := by
        have h1 : wrElem (wrV c) = some (wrD c, []) := rfl
        rw [h1] at hv
        cases hv
        rfl
      obtain ⟨hcL, hC2⟩ := HR.out.2.2.1.step HH.out.2.2.2.1 hlk hat hyd
      have hiw := HR.out.1.iter_walk
      obtain ⟨o, ho, how⟩ := hiw
      have hnc : o.isCells = false := Obj.not_cells_of_walk how
      have hJ2 : J vs w2 := HH.out.1 vs wr w2 (some W.heap.size) HR.out.2.2.2.1 hg2 (fun r e => by cases e; exact ⟨HH.out.2.2.2.2.2.2, o, ho, hnc⟩)
      have hB2 : BB w2 := HH.out.2.1 _ _ HR.out.2.2.2.2 ⟨hg2.size, fun k o' hk _ hw => by
        have hne : some k ≠ some W.heap.size := fun e => by
          cases e
          rw [ho] at hk
          cases hk
          rw [how] at hw
          cases hw
        exact (hg2.block k (Array.getElem?_eq_some_iff.1 hk).1 hne).trans hk⟩
      obtain ⟨W3, hW3⟩ : ∃ W3, W3 = w2.alloc (.cells #[.string c.key, .string c.val, .bool c.gone] 40) := ⟨_, rfl⟩
      have hb3 : Below w2.heap.size w2 W3 := by rw [hW3]; exact (Below.refl _ _).alloc (Nat.le_refl _) _
      have hJ3 : J vs W3 := by rw [hW3]; exact HH.out.1.alloc (s := vs) _ hJ2
      have hB3 : BB W3 := HH.out.2.1 _ _ hB2 (below_nw hb3)
      have hlen : vs.length < L.length := by have := HR.out.2.1; omega
      obtain ⟨fn, tmps, assign, body, hy, hRo⟩ := HH.out.2.2.1 vs c W3 hJ3 hlen hB3
      have HRo := Lib.hid hRo
      have H3 := Lib.hid (show W3.ranges Tryz.prog 9 wrElem m W.heap.size L.length T (fun z => left z && !z.sameKey (keyW s)) cnt2 ∧ vs.length + 1 + cnt2 ≤ L.length ∧ cnt2 < gk from ⟨by rw [hW3]; exact hrg2.alloc _, by have := HR.out.2.1; omega, hlt⟩)
      have HC2 := Lib.hid hC2
      rw [hW3] at hy
      unfold wrV at hy hen
      have HW3 := Lib.hid hW3
      clear hkey hlk hv hat hrg2 hlt hg2 hs2 hcL hC2 ho how hnc hJ2 hB2 hb3 hJ3 hB3 hRo hyd hlen hW3
      unfold wrV
      gi_wp2
      rw [← HW3.out]
      refine HRo.out.mono ?_
      rintro e W4 ⟨rfl, hJ4, hB4, hK4⟩
      have H4 := Lib.hid (And.intro hJ4 (And.intro hB4 hK4))
      clear hJ4 hB4 hK4 hy hen
      gi_wp2
      gi_roundg cnt2
      case measure => exact H3.out.2.2
      case rel => exact ⟨_, vs ++ [c], Lib.hid ⟨H3.out.1.of_walks H4.out.2.2, by rw [List.length_append]; exact H3.out.2.1, HC2.out, H4.out.1, H4.out.2.1⟩⟩
end Go.Proofs.YtmblbogpkdkncaaGreat
namespace Go.Proofs.YtmblbogpkdkncaaGreat
open Go.RowKit Go.Shelf Go.Sort

instance : Inhabited Wr := ⟨⟨⟨#[]⟩, ⟨#[]⟩, false⟩⟩
/-- How two writes compare. -/
def cfW (x y : Wr) : Int := if ltB x.key y.key then -1 else if ltB y.key x.key then 1 else 0
theorem ltOf_cfW (x y : Wr) : ltOf cfW x y = ltB x.key y.key := by
  unfold ltOf cfW
  cases h1 : ltB x.key y.key with
  | true => rfl
  | false => cases ltB y.key x.key <;> rfl
theorem swo_cfW : SWO (ltOf cfW) where
  irrefl x := by rw [ltOf_cfW]; exact ltB_irrefl _
  trans x y z h1 h2 := by rw [ltOf_cfW] at *; exact ltB_trans h1 h2
  ntrans x y z h1 h2 := by
    rw [ltOf_cfW] at *
    cases h : ltB x.key z.key with
    | false => rfl
    | true =>
      exfalso
      by_cases e : y.key = z.key
      · rw [e, h] at h1; cases h1
      · have := ltB_trans h (ltB_total h2 e)
        rw [this] at h1
        cases h1
set_option maxHeartbeats 1000000 in
theorem isNaN_p (a : ByteArray) (W : World) : Calls Tryz.prog 104 #[.string a] W (fun e w' => e = .returned (.bool false) ∧ w' = W) := by
  have h1 : (a.toList == a.toList) = true := beq_self_eq_true _
  go_enter Tryz.func104, Tryz.ntmps104
  go_wp2_with fail
  go_ret
  exact ⟨by simp, rfl⟩
set_option maxHeartbeats 1000000 in
theorem compare_p (a b : ByteArray) (W : World) : Calls Tryz.prog 69 #[.string a, .string b] W (fun e w' => e = .returned (.int .i64 (if ltB a b then -1 else if ltB b a then 1 else 0)) ∧ w' = W) := by
  have HN := Lib.hid (fun a W => isNaN_p a W)
  obtain ⟨p, hp⟩ : ∃ p, p = ltB a b := ⟨_, rfl⟩
  obtain ⟨q, hq⟩ : ∃ q, q = ltB b a := ⟨_, rfl⟩
  rw [← hp, ← hq]
  have h1 : Op.bytesLess a.toList b.toList = p := hp.symm
  have h2 : Op.bytesLess b.toList a.toList = q := hq.symm
  have h3 : (a.toList == b.toList) = (!p && !q) := by
    by_cases e : a = b
    · subst e
      rw [ltB_irrefl] at hp hq
      rw [hp, hq, beq_self_eq_true]
      rfl
    · rw [toList_ne e]
      rcases ne_iff_lt.1 e with h | h
      · rw [hp, h]; rfl
      · rw [hq, h]; cases p <;> rfl
  clear hp hq
  cases p with
  | true =>
    have h4 : (a.toList == b.toList) = false := h3
    clear h3
    go_enter Tryz.func69, Tryz.ntmps69
    go_wp2_with (go_at_call 104; refine (HN.out _ _).mono ?_; rintro e w9 ⟨rfl, hw⟩; rw [hw]; clear hw w9)
    go_ret
    exact ⟨rfl, rfl⟩
  | false =>
    cases q with
    | true =>
      have h4 : (a.toList == b.toList) = false := h3
      clear h3
      go_enter Tryz.func69, Tryz.ntmps69
      go_wp2_with (go_at_call 104; refine (HN.out _ _).mono ?_; rintro e w9 ⟨rfl, hw⟩; rw [hw]; clear hw w9)
      go_ret
      exact ⟨rfl, rfl⟩
    | false =>
      have h4 : (a.toList == b.toList) = true := h3
      clear h3
      go_enter Tryz.func69, Tryz.ntmps69
      go_wp2_with (go_at_call 104; refine (HN.out _ _).mono ?_; rintro e w9 ⟨rfl, hw⟩; rw [hw]; clear hw w9)
      go_ret
      exact ⟨rfl, rfl⟩
set_option maxHeartbeats 1000000 in
theorem byKey_p (x y : Wr) (W : World) : Calls Tryz.prog 68 #[.agg (cellsWr x).toArray, .agg (cellsWr y).toArray] W fun e w' => e = .returned (.int .i64 (cfW x y)) ∧ ∃ q os', w' = grow (W.drewN q) os' := by
  have hcon := fun W' => compare_p x.key y.key W'
  have HE := Lib.hid (show cfW x y = (if ltB x.key y.key then -1 else if ltB y.key x.key then 1 else 0) from rfl)
  rw [HE.out]
  generalize (if ltB x.key y.key then (-1 : Int) else if ltB y.key x.key then 1 else 0) = r at hcon ⊢
  obtain ⟨xk, xv, xg⟩ := x
  obtain ⟨yk, yv, yg⟩ := y
  show Calls Tryz.prog 68 #[.agg #[.string xk, .string xv, .bool xg], .agg #[.string yk, .string yv, .bool yg]] W _
  clear HE
  go_enter Tryz.func68, Tryz.ntmps68
  go_wp2_with (go_at_call 69; refine (hcon _).mono ?_; rintro e w' ⟨rfl, rfl⟩)
  go_ret
  exact ⟨rfl, 0, _, by rw [alloc_eq_grow, alloc_eq_grow, grow_grow]; rfl⟩
theorem flatWr_length : ∀ ts : List Wr, (flatWr ts).length = ts.length * 3
  | [] => rfl
  | t :: ts => by
    have h := flatWr_length ts
    show (cellsWr t ++ flatWr ts).length = _
    rw [List.length_append, h, List.length_cons]
    show 3 + _ = _
    omega
theorem flatK_wr (ts : List Wr) : flatK cellsWr 3 ts.toArray = (flatWr ts).toArray := by
  refine Array.ext (by simp [flatWr_length]) fun t h1 h2 => ?_
  have h1' : t < ts.length * 3 := by simpa using h1
  have hi : t / 3 < ts.length := by omega
  obtain ⟨a0, a1, a2⟩ := flatWr_at ts (t / 3) _ (List.getElem?_eq_getElem hi)
  have hg := get_flatK cellsWr 3 ts.toArray t (by simpa using h1')
  rw [getElem!_pos (flatK cellsWr 3 ts.toArray) t h1] at hg
  rw [hg, show ts.toArray[t / 3]! = ts[t / 3] by rw [getElem!_pos ts.toArray (t / 3) (by simpa using hi)]; rfl]
  have h3 : (flatWr ts).toArray[t] = (flatWr ts)[t]'(by simpa using h2) := rfl
  rw [h3]
  have hs : (flatWr ts)[t]? = some ((flatWr ts)[t]'(by simpa using h2)) := List.getElem?_eq_getElem _
  have hm : t % 3 = 0 ∨ t % 3 = 1 ∨ t % 3 = 2 := by omega
  rcases hm with e | e | e
  · rw [show t / 3 * 3 = t by omega] at a0
    rw [e]
    exact Option.some.inj (a0.symm.trans hs)
  · rw [show t / 3 * 3 + 1 = t by omega] at a1
    rw [e]
    exact Option.some.inj (a1.symm.trans hs)
  · rw [show t / 3 * 3 + 2 = t by omega] at a2
    rw [e]
    exact Option.some.inj (a2.symm.trans hs)
theorem holds_wr {w : World} {g : Nat} {cur : Array Value} {e : TypeId} {ts : List Wr} (hb : w.heap[g]? = some (.cells cur e (0, 0))) (ht : cur.toList.take (ts.length * 3) = flatWr ts) : HoldsK cellsWr 3 w g 0 ts.toArray := by
  unfold HoldsK
  rw [flatK_wr]
  intro j hj
  have hj' : j < (flatWr ts).length := by simpa using hj
  have hj3 : j < ts.length * 3 := by rwa [flatWr_length] at hj'
  refine ⟨?_, by simp [World.frozen?, hb]⟩
  have h1 : (cur.toList.take (ts.length * 3))[j]? = (flatWr ts)[j]? := by rw [ht]
  rw [List.getElem?_take_of_lt hj3] at h1
  simp only [World.cell?, hb, Nat.zero_add]
  simp only [Option.isSome_none, Bool.false_eq_true, if_false]
  rw [← Array.getElem?_toList, h1]
  simp [hj']
theorem sorted_heap {w : World} {g n : Nat} {os : Array Obj} {cur : Array Value} {e : TypeId} {fr : Nat × Nat} (F : Array Value) (hb : w.heap[g]? = some (.cells cur e fr)) :
    (grow (putRow id (Sort.ahead w n) g 0 F) os).heap[g]? = some (.cells (putCells id 0 F cur) e fr) := by
  have hg : g < w.heap.size := (Array.getElem?_eq_some_iff.1 hb).1
  rw [heap_grow_old _ _ (by simpa using hg)]
  simp [putRow, mapBlock, Sort.ahead, Array.getElem?_modify, hb, onCells]
theorem sorted_grown {w : World} {g n : Nat} {os : Array Obj} (F : Array Value) : w.grownBy (grow (putRow id (Sort.ahead w n) g 0 F) os) (some g) := by
  refine ⟨rfl, rfl, rfl, by simp, fun k hk hne => ?_⟩
  rw [heap_grow_old _ _ (by simpa using hk)]
  have : g ≠ k := fun e => hne (by rw [e])
  simp [putRow, mapBlock, Sort.ahead, Array.getElem?_modify, this]
theorem take_put (cur : Array Value) (F : List Value) (h : F.length ≤ cur.size) : (putCells id 0 F.toArray cur).toList.take F.length = F := by
  apply List.ext_getElem?
  intro j
  by_cases hj : j < F.length
  · rw [List.getElem?_take_of_lt hj, Array.getElem?_toList]
    simp [putCells, hj, show j < cur.size by omega]
  · rw [List.getElem?_take_eq_none (by omega), List.getElem?_eq_none (by omega)]
/-- Behind the sort the same slice owns the sorted row. -/
theorem own_sorted {w : World} {base g cap n : Nat} {os : Array Obj} {cur : Array Value} {ts us : List Wr} (hl : us.length = ts.length) (hbase : base ≤ g) (hb : w.heap[g]? = some (.cells cur 40 (0, 0)))
    (h1 : ts.length ≤ cap) (h2 : cap ≤ maxLen) (h3 : cur.size = cap * 3) :
    (sortWorldK cellsWr 3 w g 0 n us.toArray os).ownsRow base 40 3 (.slice (some ⟨g, 0, none⟩) ts.length cap) ts.length (flatWr us) ∧ w.grownBy (sortWorldK cellsWr 3 w g 0 n us.toArray os) (some g) := by
  unfold sortWorldK putRowK
  rw [flatK_wr]
  refine ⟨⟨by rw [flatWr_length, hl], .inr ⟨g, cap, _, rfl, hbase, sorted_heap _ hb, h1, h2, by simp [putCells, h3], ?_⟩⟩, sorted_grown _⟩
  have h := take_put cur (flatWr us) (by rw [flatWr_length, h3, hl]; exact Nat.mul_le_mul_right 3 h1)
  rw [flatWr_length, hl] at h
  exact h
/-- A sorted row of all writes is these. -/
theorem sorted_all {L : List Wr} (hL : RiseW L) {vs : List Wr} (h : AllV L vs) {d : Array Wr} (hp : PermIn 0 vs.toArray.size vs.toArray d) (hs : SortedIn (ltOf cfW) 0 vs.toArray.size d) : d.toList = L := by
  obtain ⟨hsz, _, hperm⟩ := hp
  have e1 : d.extract 0 vs.toArray.size = d := by rw [← hsz]; exact Array.extract_size
  rw [e1, Array.extract_size] at hperm
  have hone : d.toList.Pairwise fun a b => a.key ≠ b.key := (hperm.pairwise_iff (fun {_ _} h => Ne.symm h)).2 (by simpa using h.2)
  have hr : RiseW d.toList := by
    unfold RiseW
    rw [List.pairwise_iff_getElem] at hone ⊢
    intro i j hi hj hij
    have hi' : i < d.size := by simpa using hi
    have hj' : j < d.size := by simpa using hj
    have h1 := hs i j (Nat.zero_le _) hij (by omega)
    rw [getElem!_pos d j hj', getElem!_pos d i hi', ltOf_cfW] at h1
    exact ltB_total h1 (fun e => hone i j hi hj hij (by simpa using e.symm))
  refine rise_ext hr hL fun k => Option.ext fun x => ?_
  rw [lk_iff hr, lk_iff hL, hperm.mem_iff]
  simp only [h.1 x]
end Go.Proofs.YtmblbogpkdkncaaGreat
