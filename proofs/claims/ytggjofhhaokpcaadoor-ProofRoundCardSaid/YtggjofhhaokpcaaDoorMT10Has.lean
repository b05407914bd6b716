/- Contract of CheckConsistency. The contracts of the program's proof, all together. What a law of stage 10 holds: sources, rows of texts; the calls over it; the chapter's example. -/
import Derived.Test.YtggjofhhaokpcaaDoorMP10ChkI
import Derived.Test.YtggjofhhaokpcaaDoorMP10Cat
import Derived.Deep.QuietTactic
namespace Go.Proofs.YtggjofhhaokpcaaDoor
open Go.RowKit

theorem fold_size2 {β : Type} (f : ByteArray × ByteArray → β → ByteArray × ByteArray) (hf : ∀ x b, x.1.size ≤ 400 → x.2.size ≤ 400 → (f x b).1.size ≤ 400 ∧ (f x b).2.size ≤ 400 ∨ False) : ∀ (l : List β) (x : ByteArray × ByteArray), x.1.size ≤ 400 → x.2.size ≤ 400 → (l.foldl f x).1.size ≤ 400 ∧ (l.foldl f x).2.size ≤ 400
  | [], x, h1, h2 => ⟨h1, h2⟩
  | b :: l, x, h1, h2 => by
    rw [List.foldl_cons]
    rcases hf x b h1 h2 with ⟨k1, k2⟩ | k
    · exact fold_size2 f hf l _ k1 k2
    · exact k.elim
theorem bothS_size (q : Nat) : ∀ (l : List ((Nat × Nat) × ByteArray)) (x : ByteArray × ByteArray), (∀ b ∈ l, b.2.size ≤ 400) → x.1.size ≤ 400 → x.2.size ≤ 400 → (l.foldl (bothS nodeB q) x).1.size ≤ 400 ∧ (l.foldl (bothS nodeB q) x).2.size ≤ 400
  | [], x, _, h1, h2 => ⟨h1, h2⟩
  | b :: l, x, hb, h1, h2 => by
    rw [List.foldl_cons]
    have hbb := hb b (List.mem_cons_self ..)
    have hn : ∀ u v, (nodeB u v).size ≤ 400 := fun u v => by rw [nodeB_size]; omega
    refine bothS_size q l _ (fun c hc => hb c (List.mem_cons_of_mem _ hc)) ?_ ?_
    · unfold bothS
      split
      · exact h1
      · split
        · exact hbb
        · exact hn _ _
    · unfold bothS
      split
      · exact hn _ _
      · split
        · exact hbb
        · exact hn _ _
theorem zip_second {α β : Type} {ps : List α} {p : List β} {b : α × β} (h : b ∈ ps.zip p) : b.2 ∈ p := by
  obtain ⟨x, y⟩ := b
  exact (List.of_mem_zip h).2
set_option maxHeartbeats 4000000 in
set_option maxRecDepth 100000 in
/-- In range, not of none, and of the right length. -/
theorem chkC_run (m n : Nat) (p : List ByteArray) (A : Option Addr) (q c : Nat) (x y : ByteArray) (W : World) (hT : TabsP W) (hp : StrsIn W A p) (hq : q = p.length) (hc : q ≤ c) (hcm : c ≤ maxLen) (hx : x.size ≤ 400) (hs : ∀ s ∈ p, s.size ≤ 400) (h1m : 1 ≤ m) (hmn : m ≤ n) (hn : n ≤ 1048576) (hlen : q = (proofP m n).length) (E1 E2 : Bool) (hE1 : E1 = ((oldB m n p x true).toList == x.toList)) (hE2 : E2 = ((newB m n p x true).toList == y.toList)) :
    Calls Tryd.prog 20 #[.int .i64 (m : Int), .int .i64 (n : Int), .slice A q c, .string x, .string y] W (fun e w' => e = .returned (.int .i64 (if (E1 && E2) = true then 0 else 9)) ∧ Below W.heap.size W w') := by
  have HL := Lib.hid (arefirst_any m n W)
  rw [decide_eq_true (show (0 : Int) ≤ n ∧ (n : Int) ≤ 1048576 ∧ (0 : Int) ≤ m ∧ (m : Int) ≤ n by omega)] at HL
  obtain ⟨m', hm'⟩ : ∃ m', m = m' + 1 := ⟨m - 1, by omega⟩
  have hP := proofparts_any m' n W (by omega) hn
  rw [← hm'] at hP
  unfold PartsP at hP
  rw [← hlen] at hP
  have HP := Lib.hid hP
  clear hP hm'
  have hcl : (oldB m n p x true, newB m n p x true) = ((proofP m n).zip p).foldl (bothS nodeB m) (x, x) := bothP_is (digS []) nodeB x h1m hmn (by rw [← hlen, hq])
  have hc1 : oldB m n p x true = (((proofP m n).zip p).foldl (bothS nodeB m) (x, x)).1 := congrArg Prod.fst hcl
  have hc2 : newB m n p x true = (((proofP m n).zip p).foldl (bothS nodeB m) (x, x)).2 := congrArg Prod.snd hcl
  rw [hc1] at hE1
  rw [hc2] at hE2
  have hq6 : q ≤ 1048576 := by have := proofP_short h1m hmn; omega
  have HE := Lib.hid (And.intro hE1 hE2)
  generalize proofP m n = P at *
  have hcm' : c ≤ 9223372036854775807 := hcm
  have hm0 : ¬ (m : Int) = 0 := by omega
  have H0 := Lib.hid (And.intro hT (And.intro hp (And.intro hq (And.intro hx (And.intro hs (And.intro hlen (And.intro hc hcm)))))))
  clear hT hp hq hx hs hlen hcl hc1 hc2 hE1 hE2 hmn hn hcm h1m
  have hqq : ¬ (q : Int) < 0 := by omega
  go_enter Tryd.func20, Tryd.ntmps20
  go_upto_region 8 with (first
    | (go_at_call 31; refine HL.out.mono ?_; rintro e w1 ⟨rfl, rfl⟩)
    | (go_at_call 33; refine HP.out.mono ?_; rintro e w1 ⟨Y, cp, rfl, h1, h2, hpp, hb⟩; have H1 := Lib.hid (And.intro h1 (And.intro h2 (And.intro hpp hb))); clear h1 h2 hpp hb))
  obtain ⟨hT, hp, hq, hx, hs, hlen, hc, hcm⟩ := H0.out
  obtain ⟨hcp, hcpm, hpp, hb1⟩ := H1.out
  have HT := Lib.hid (taker_any A q c p w1 (hp.on hb1) hq hc hcm)
  have hcpm' : cp ≤ 9223372036854775807 := hcpm
  clear hT hp hq hx hs hlen hc hcm hpp hb1 hcpm
  go_upto_block 0 with (go_at_call 38; refine HT.out.mono ?_; rintro e w2 ⟨rfl, h2⟩; have H2 := Lib.hid h2; clear h2)
  go_wp2_with fail
  go_loopg [13, 14, 38] q (fun g s1 s2 i wr => ∃ k F1 F2, k ≤ q ∧ g = q - k ∧ i = .int .i64 (k : Int) ∧ s1 = .string F1 ∧ s2 = .string F2 ∧ Hid ((F1, F2) = ((P.zip p).take k).foldl (bothS nodeB m) (x, x)) ∧ Hid (TakeR w1 wr w1.heap.size (p.drop k)))
  case atStart => exact ⟨0, x, x, by omega, rfl, rfl, rfl, rfl, Lib.hid rfl, H2⟩
  case round =>
    obtain ⟨k, F1, F2, hk, rfl, rfl, rfl, rfl, hF, HR⟩ := hrel
    by_cases hlt : k < q
    · obtain ⟨hT, hp, hq, hx, hs, hlen, hc, hcm⟩ := H0.out
      obtain ⟨-, -, hpp, hb1⟩ := H1.out
      obtain ⟨⟨a, b⟩, hpk⟩ : ∃ y, P[k]? = some y := ⟨P[k]'(by omega), List.getElem?_eq_getElem _⟩
      obtain ⟨s, hsk⟩ : ∃ y, p[k]? = some y := ⟨p[k]'(by omega), List.getElem?_eq_getElem _⟩
      obtain ⟨g, rfl, hg, c0, c1⟩ := (hpp.on HR.out.2.1) k _ hpk
      simp only at c0 c1
      have hki : (k : Int) < (q : Int) := by omega
      have hss := hs s (List.mem_of_getElem? hsk)
      have hFs := bothS_size m ((P.zip p).take k) (x, x) (fun b hb => hs _ (zip_second (List.mem_of_mem_take hb))) hx hx
      rw [← hF.out] at hFs
      have HTk := Lib.hid (fun W' (hb : Below wr.heap.size wr W') => taker_next w1 W' w1.heap.size s (p.drop (k + 1)) (by have := HR.out.on hb; rwa [drop_next hsk] at this))
      have HTab := Lib.hid (fun W' (hb : Below w1.heap.size w1 W') => (hT.on (hb1.trans (hb.mono hb1.size))).2)
      have HZ := Lib.hid (show bothS nodeB m (F1, F2) ((a, b), s) = ((P.zip p).take (k + 1)).foldl (bothS nodeB m) (x, x) by rw [zip_take hpk hsk, List.foldl_append, ← hF.out]; rfl)
      have HBA := Lib.hid ((Below.refl wr.heap.size wr).alloc (Nat.le_refl _) (.cells #[.int .i64 (a : Int), .int .i64 (b : Int)] 65))
      have HSZ := Lib.hid (show s.size ≤ 400 ∧ F1.size ≤ 400 ∧ F2.size ≤ 400 from ⟨hss, hFs⟩)
      have HNE := Lib.hid (show wr.heap.size ≠ w1.heap.size by obtain ⟨_, _, _, _, hbx, -⟩ := HR.out; have := hbx.lt; omega)
      have HPB := Lib.hid (show (wr.alloc (.cells #[.int .i64 (a : Int), .int .i64 (b : Int)] 65)).cell? ⟨wr.heap.size, 0, none⟩ = some (.int .i64 (a : Int)) ∧ (wr.alloc (.cells #[.int .i64 (a : Int), .int .i64 (b : Int)] 65)).cell? ⟨wr.heap.size, 1, none⟩ = some (.int .i64 (b : Int)) by simp [go_sem])
      clear hT hp hq hx hs hlen hc hcm hpp hb1 hpk hsk hg hss hFs
      by_cases hma : m ≤ a
      · have hmi : (m : Int) ≤ (a : Int) := by omega
        go_wp2_with (first
          | (go_at_call 49; refine (HTk.out _ HBA.out).mono ?_; rintro e w5 ⟨rfl, h5, hk5⟩; have H5 := Lib.hid h5; have e0 := (hk5 ⟨wr.heap.size, 0, none⟩ HNE.out).trans HPB.out.1; have e1 := (hk5 ⟨wr.heap.size, 1, none⟩ HNE.out).trans HPB.out.2; clear h5 hk5)
          | (go_at_call 39; refine (nodehash_any F2 s w5 (HTab.out _ H5.out.2.1) (by have := HSZ.out; omega)).mono ?_; rintro e w6 ⟨rfl, hb6⟩; have H6 := Lib.hid (H5.out.on hb6); clear hb6))
        go_roundg (q - (k + 1))
        case measure => omega
        case rel => exact ⟨k + 1, F1, nodeB F2 s, by omega, rfl, by go_num, rfl, rfl, Lib.hid (by rw [← HZ.out]; unfold bothS; rw [if_pos hma]), H6⟩
      · have hmi : ¬ (m : Int) ≤ (a : Int) := by omega
        by_cases hbm : b = m
        · have hbm' := hbm.symm
          subst hbm'
          go_wp2_with (go_at_call 49; refine (HTk.out _ HBA.out).mono ?_; rintro e w5 ⟨rfl, h5, hk5⟩; have H5 := Lib.hid h5; have e0 := (hk5 ⟨wr.heap.size, 0, none⟩ HNE.out).trans HPB.out.1; have e1 := (hk5 ⟨wr.heap.size, 1, none⟩ HNE.out).trans HPB.out.2; clear h5 hk5)
          go_roundg (q - (k + 1))
          case measure => omega
          case rel => exact ⟨k + 1, s, s, by omega, rfl, by go_num, rfl, rfl, Lib.hid (by rw [← HZ.out]; unfold bothS; rw [if_neg hma, if_pos rfl]), H5⟩
        · have hbi : ¬ (b : Int) = (m : Int) := by omega
          go_wp2_with (first
            | (go_at_call 49; refine (HTk.out _ HBA.out).mono ?_; rintro e w5 ⟨rfl, h5, hk5⟩; have H5 := Lib.hid h5; have e0 := (hk5 ⟨wr.heap.size, 0, none⟩ HNE.out).trans HPB.out.1; have e1 := (hk5 ⟨wr.heap.size, 1, none⟩ HNE.out).trans HPB.out.2; clear h5 hk5)
            | (go_at_call 39; refine (nodehash_any s F2 w6 (HTab.out _ H6.out.2.1) (by have := HSZ.out; omega)).mono ?_; rintro e w7 ⟨rfl, hb7⟩; have H7 := Lib.hid (H6.out.on hb7); clear hb7)
            | (go_at_call 39; refine (nodehash_any s F1 w5 (HTab.out _ H5.out.2.1) (by have := HSZ.out; omega)).mono ?_; rintro e w6 ⟨rfl, hb6⟩; have H6 := Lib.hid (H5.out.on hb6); clear hb6))
          go_roundg (q - (k + 1))
          case measure => omega
          case rel => exact ⟨k + 1, nodeB s F1, nodeB s F2, by omega, rfl, by go_num, rfl, rfl, Lib.hid (by rw [← HZ.out]; unfold bothS; rw [if_neg hma, if_neg hbm]), H7⟩
    · have hki : ¬ (k : Int) < (q : Int) := by omega
      have hEE : (F1.toList == x.toList) = E1 ∧ (F2.toList == y.toList) = E2 := by
        obtain ⟨hT, hp, hq, hx, hs, hlen, hc, hcm⟩ := H0.out
        have hff := hF.out
        rw [List.take_of_length_le (by rw [List.length_zip]; omega)] at hff
        rw [HE.out.1, HE.out.2, ← hff]
        exact ⟨rfl, rfl⟩
      obtain ⟨hEa, hEb⟩ := hEE
      have HB := Lib.hid (H1.out.2.2.2.trans (HR.out.2.1.mono H1.out.2.2.2.size))
      clear HE
      cases E1 with
      | false =>
        go_wp2_with (go_at_call 40; refine (proves_any false _).mono ?_; rintro e w7 ⟨rfl, rfl⟩)
        all_goals go_ret
        all_goals exact ⟨rfl, HB.out⟩
      | true =>
        cases E2 with
        | false =>
          go_wp2_with (go_at_call 40; refine (proves_any false _).mono ?_; rintro e w7 ⟨rfl, rfl⟩)
          all_goals go_ret
          all_goals exact ⟨rfl, HB.out⟩
        | true =>
          go_wp2_with (go_at_call 40; refine (proves_any true _).mono ?_; rintro e w7 ⟨rfl, rfl⟩)
          all_goals go_ret
          all_goals exact ⟨rfl, HB.out⟩
set_option maxHeartbeats 2000000 in
set_option maxRecDepth 100000 in
/-- In range, but of another length. -/
theorem chkC_long (m n : Nat) (P : Prt) (A : Option Addr) (q c : Nat) (x y : ByteArray) (W : World) (hmn : m ≤ n) (hn : n ≤ 1048576) (hP : Calls Tryd.prog 33 #[.int .i64 (m : Int), .int .i64 (n : Int)] W (PartsP W P)) (_ : P.length ≤ 1048576) (hlen : q ≠ P.length) (_ : q ≤ 1000) :
    Calls Tryd.prog 20 #[.int .i64 (m : Int), .int .i64 (n : Int), .slice A q c, .string x, .string y] W (fun e w' => e = .returned (.int .i64 9) ∧ Below W.heap.size W w') := by
  have HL := Lib.hid (arefirst_any m n W)
  rw [decide_eq_true (show (0 : Int) ≤ n ∧ (n : Int) ≤ 1048576 ∧ (0 : Int) ≤ m ∧ (m : Int) ≤ n by omega)] at HL
  unfold PartsP at hP
  obtain ⟨L, hL⟩ : ∃ L, L = P.length := ⟨_, rfl⟩
  rw [← hL] at hP hlen
  have HP := Lib.hid hP
  have hqi : ¬ (q : Int) = (L : Int) := by omega
  clear hP hL hmn hn hlen
  go_enter Tryd.func20, Tryd.ntmps20
  go_wp2_with (first
    | (go_at_call 31; refine HL.out.mono ?_; rintro e w1 ⟨rfl, rfl⟩)
    | (go_at_call 33; refine HP.out.mono ?_; rintro e w1 ⟨Y, cp, rfl, h1, h2, hpp, hb⟩; have HB := Lib.hid hb; clear h1 h2 hpp hb))
  go_ret
  exact ⟨rfl, HB.out⟩
set_option maxHeartbeats 2000000 in
set_option maxRecDepth 100000 in
theorem chkC_none (n : Nat) (A : Option Addr) (c : Nat) (x y : ByteArray) (W : World) (hn : n ≤ 1048576) :
    Calls Tryd.prog 20 #[.int .i64 0, .int .i64 (n : Int), .slice A 0 c, .string x, .string y] W (fun e w' => e = .returned (.int .i64 0) ∧ Below W.heap.size W w') := by
  have HL := Lib.hid (arefirst_any 0 n W)
  rw [decide_eq_true (show (0 : Int) ≤ n ∧ (n : Int) ≤ 1048576 ∧ (0 : Int) ≤ 0 ∧ (0 : Int) ≤ n by omega)] at HL
  have hP := proofparts_none n W
  unfold PartsP at hP
  have HP := Lib.hid hP
  clear hP hn
  go_enter Tryd.func20, Tryd.ntmps20
  go_wp2_with (first
    | (go_at_call 31; refine HL.out.mono ?_; rintro e w1 ⟨rfl, rfl⟩)
    | (go_at_call 33; refine HP.out.mono ?_; rintro e w1 ⟨Y, cp, rfl, h1, h2, hpp, hb⟩; have HB := Lib.hid hb; clear h1 h2 hpp hb))
  go_ret
  exact ⟨rfl, HB.out⟩
set_option maxHeartbeats 2000000 in
set_option maxRecDepth 100000 in
theorem chkC_p (m n : Int) (p : List ByteArray) (A : Option Addr) (q c : Nat) (x y : ByteArray) (W : World) (hT : TabsP W) (hp : StrsIn W A p) (hq : q = p.length) (hq2 : q ≤ 1000) (hc : q ≤ c) (hcm : c ≤ maxLen) (hx : x.size ≤ 400) (hs : ∀ s ∈ p, s.size ≤ 400) (_ : y.size ≤ 400) (_ : -9223372036854775808 ≤ m ∧ m ≤ 9223372036854775807) (_ : -9223372036854775808 ≤ n ∧ n ≤ 9223372036854775807) :
    Calls Tryd.prog 20 #[.int .i64 m, .int .i64 n, .slice A q c, .string x, .string y] W (fun e w' => e = .returned (.int .i64 (chkC m n p x y)) ∧ Below W.heap.size W w') := by
  by_cases hb : badC m n
  · rw [chkC_bad hb]
    have HL := Lib.hid (arefirst_any m n W)
    rw [decide_eq_false (show ¬ (0 ≤ n ∧ n ≤ 1048576 ∧ 0 ≤ m ∧ m ≤ n) by unfold badC at hb; omega)] at HL
    clear hT hp hq hs hb
    go_enter Tryd.func20, Tryd.ntmps20
    go_wp2_with (go_at_call 31; refine HL.out.mono ?_; rintro e w1 ⟨rfl, rfl⟩)
    go_ret
    exact ⟨rfl, Below.refl _ _⟩
  · have hnb := hb
    unfold badC at hb
    obtain ⟨k, rfl⟩ : ∃ k : Nat, n = (k : Int) := ⟨n.toNat, by omega⟩
    obtain ⟨i, rfl⟩ : ∃ i : Nat, m = (i : Int) := ⟨m.toNat, by omega⟩
    have hik : i ≤ k := by omega
    have hk : k ≤ 1048576 := by omega
    by_cases h0 : i = 0
    · subst h0
      rw [show ((0 : Nat) : Int) = 0 from rfl] at hnb ⊢
      by_cases hpn : p = []
      · rw [chkC_zero hnb hpn]
        have hq0 : q = 0 := by rw [hq, hpn]; rfl
        subst hq0
        exact chkC_none k A c x y W hk
      · rw [chkC_zero9 hnb hpn]
        exact chkC_long 0 k [] A q c x y W (by omega) hk (proofparts_none k W) (by simp) (by rw [hq]; intro h; exact hpn (List.length_eq_zero_iff.1 (by simpa using h))) hq2
    · have h1 : 1 ≤ i := by omega
      have hi0 : (i : Int) ≠ 0 := by omega
      by_cases hlen : q = (proofP i k).length
      · have h := chkC_run i k p A q c x y W hT hp hq hc hcm hx hs h1 hik hk hlen _ _ rfl rfl
        by_cases he : oldB i k p x true = x ∧ newB i k p x true = y
        · rw [chkC_ok hnb hi0 ⟨by rw [Int.toNat_natCast, Int.toNat_natCast, ← hq, hlen, proofP_len h1 hik], by rw [Int.toNat_natCast, Int.toNat_natCast]; exact he⟩]
          rw [he.1, he.2, beq_self_eq_true, beq_self_eq_true, if_pos (by decide)] at h
          exact h
        · rw [chkC_no hnb hi0 (fun hh => he (by have := hh.2; rwa [Int.toNat_natCast, Int.toNat_natCast] at this))]
          have hf : (((oldB i k p x true).toList == x.toList) && ((newB i k p x true).toList == y.toList)) = false := by
            by_cases ha : oldB i k p x true = x
            · rw [toList_ne (fun hy => he ⟨ha, hy⟩), Bool.and_false]
            · rw [toList_ne ha, Bool.false_and]
          rw [hf, if_neg (by decide)] at h
          exact h
      · rw [chkC_no hnb hi0 (fun hh => hlen (by have := hh.1; rw [Int.toNat_natCast, Int.toNat_natCast, ← proofP_len h1 hik, ← hq] at this; exact this))]
        obtain ⟨i', rfl⟩ : ∃ i', i = i' + 1 := ⟨i - 1, by omega⟩
        exact chkC_long (i' + 1) k (proofP (i' + 1) k) A q c x y W hik hk (proofparts_any i' k W (by omega) hk) (by have := proofP_short h1 hik; omega) hlen hq2
end Go.Proofs.YtggjofhhaokpcaaDoor
namespace Go.Proofs.YtggjofhhaokpcaaDoor
open Go.RowKit

/-- Sources and rows of texts that a law holds. -/
def Has (w W : World) (ss : List (Value × List ByteArray)) (rs : List (Value × List ByteArray)) : Prop := Below w.heap.size w W ∧ TabsP W ∧ (∀ s ∈ ss, SrcAt W s.1 s.2) ∧ ∀ r ∈ rs, AccS w W r.1 r.2
def M63 (n : Int) : Prop := -9223372036854775808 ≤ n ∧ n ≤ 9223372036854775807
section
variable {w W W' : World} {ss rs : List (Value × List ByteArray)}
theorem Has.start (hT : TabsP w) : Has w w [] [] := ⟨Below.refl _ _, hT, fun _ h => (by cases h), fun _ h => (by cases h)⟩
theorem Has.on (h : Has w W ss rs) (hb : Below W.heap.size W W') : Has w W' ss rs := ⟨h.1.trans (hb.mono h.1.size), h.2.1.on hb, fun s k => (h.2.2.1 s k).on hb, fun r k => (h.2.2.2 r k).on hb⟩
theorem Has.row (h : Has w W ss rs) {v : Value} {ps : List ByteArray} (ha : AccS W W' v ps) : Has w W' ss ((v, ps) :: rs) := by
  have h2 := h.on ha.2
  refine ⟨h2.1, h2.2.1, h2.2.2.1, fun r k => ?_⟩
  rcases List.mem_cons.1 k with rfl | k
  · exact ha.base h.1
  · exact h2.2.2.2 r k
theorem Has.src (h : Has w W ss rs) (hb : Below W.heap.size W W') {v : Value} {l : List ByteArray} (hs : SrcAt W' v l) : Has w W' ((v, l) :: ss) rs := by
  have h2 := h.on hb
  refine ⟨h2.1, h2.2.1, fun s k => ?_, h2.2.2.2⟩
  rcases List.mem_cons.1 k with rfl | k
  · exact hs
  · exact h2.2.2.1 s k
theorem AccS.builtL {w W : World} (hb : Below w.heap.size w W) (ls : List ByteArray) (n : Nat) (hn : n = ls.length) (hm : n ≤ 1000) : AccS w (W.alloc (.cells (ls.map Value.string).toArray 9)) (.slice (some ⟨W.heap.size, 0, none⟩) n n) ls := by
  subst hn
  exact ⟨⟨by simp, .inr ⟨W.heap.size, ls.length, _, rfl, hb.size, heap_alloc_new W _, Nat.le_refl _, by unfold maxLen; omega, by simp, by simp only [Nat.mul_one]; exact List.take_of_length_le (by simp)⟩⟩, hb.alloc hb.size _⟩
/-- The cell of a row that is held. -/
theorem Has.cell (h : Has w W ss rs) {g k q : Nat} {ps : List ByteArray} (hr : (.slice (some ⟨g, 0, none⟩) k q, ps) ∈ rs) (i : Nat) {s : ByteArray} (hs : ps[i]? = some s) : W.cell? ⟨g, i, none⟩ = some (.string s) := by
  obtain ⟨h1, h2, h3, h4⟩ := (h.2.2.2 _ hr).ins
  obtain ⟨ad, he, -, hc⟩ := h4 i s hs
  cases he
  rw [Addr.add_lit, Nat.zero_add] at hc
  exact hc
theorem Has.form (h : Has w W ss rs) {Y : Option Addr} {k q : Nat} {ps : List ByteArray} (hr : (.slice Y k q, ps) ∈ rs) (h0 : 0 < ps.length) : ∃ g, Y = some ⟨g, 0, none⟩ := by
  have ha : AccS w W (.slice Y k q) ps := h.2.2.2 _ hr
  obtain ⟨hk, -⟩ := ha.ins
  subst hk
  obtain ⟨Y', cap, hv, hc, h2, h3⟩ := own_slice ha.1
  cases hv
  cases Y with
  | none => have := (h2 rfl).1; omega
  | some a =>
    obtain ⟨g, rfl, -⟩ := h3 a rfl
    exact ⟨g, rfl⟩
/-- What an answer without memory leaves. -/
def HasP (w : World) (ss rs : List (Value × List ByteArray)) (v : Value) (e : Ending) (w' : World) : Prop := e = .returned v ∧ Has w w' ss rs
/-- What an answer with a row, and a number, leaves. -/
def HasR (w : World) (ss rs : List (Value × List ByteArray)) (ps : List ByteArray) (c : Int) (e : Ending) (w' : World) : Prop := ∃ Y k q, e = .returned (.tuple #[.slice Y k q, .int .i64 c]) ∧ k = ps.length ∧ k ≤ q ∧ q ≤ maxLen ∧ Has w w' ss ((.slice Y k q, ps) :: rs)
theorem has_of (h : Has w W ss rs) (A : Option Addr) (n c : Nat) (l : List ByteArray) (hl : StrsIn W A l) (hn : n = l.length) (hm : n ≤ 1000) (hc : n ≤ c) (hcm : c ≤ maxLen) (hs : ∀ s ∈ l, s.size ≤ 400) :
    Calls Tryd.prog 11 #[.slice A n c] W (fun e w' => ∃ t u, e = .returned (.iface t u) ∧ Has w w' ((.iface t u, l) :: ss) rs) :=
  (of_any A n c l W h.2.1 hl hn hm hc hcm hs).mono fun _ _ k => by
    obtain ⟨v, he, hs, hb⟩ := k
    obtain ⟨t, u, rfl⟩ := hs.form
    exact ⟨t, u, he, h.src hb hs⟩
theorem has_root (h : Has w W ss rs) (v : Value) (l : List ByteArray) (hv : (v, l) ∈ ss) (n : Int) (hn : badN n ∨ n ≤ l.length) (hi : M63 n) :
    Calls Tryd.prog 25 #[v, .int .i64 n] W (HasP w ss rs (.tuple #[.string (rootV l n), .int .i64 (rootE n)])) :=
  (root_p v l n W h.2.1 (h.2.2.1 _ hv) hn hi).mono fun _ _ k => ⟨k.1, h.on k.2⟩
theorem hasR_of (h : Has w W ss rs) {e : Ending} {w' : World} {ps : List ByteArray} {c : Int} (k : ∃ Y k q, e = .returned (.tuple #[.slice Y k q, .int .i64 c]) ∧ AccS W w' (.slice Y k q) ps) : HasR w ss rs ps c e w' := by
  obtain ⟨Y, n, q, he, ha⟩ := k
  obtain ⟨h1, h2, h3, -⟩ := ha.ins
  exact ⟨Y, n, q, he, h1, h2, h3, h.row ha⟩
theorem has_incl (h : Has w W ss rs) (v : Value) (l : List ByteArray) (hv : (v, l) ∈ ss) (m n : Int) (hn : badI m n ∨ n ≤ l.length) (hj : M63 m) (hi : M63 n) :
    Calls Tryd.prog 26 #[v, .int .i64 m, .int .i64 n] W (HasR w ss rs (inclL l m n) (inclE m n)) :=
  (incl_p v l m n W h.2.1 (h.2.2.1 _ hv) hn hj hi).mono fun _ _ k => hasR_of h k
theorem has_cons (h : Has w W ss rs) (v : Value) (l : List ByteArray) (hv : (v, l) ∈ ss) (m n : Int) (hn : badC m n ∨ n ≤ l.length) (hj : M63 m) (hi : M63 n) :
    Calls Tryd.prog 12 #[v, .int .i64 m, .int .i64 n] W (HasR w ss rs (consL l m n) (consE m n)) :=
  (cons_p v l m n W h.2.1 (h.2.2.1 _ hv) hn hj hi).mono fun _ _ k => hasR_of h k
theorem has_chkI (h : Has w W ss rs) (x : ByteArray) (m n : Int) (p : List ByteArray) (A : Option Addr) (q c : Nat) (r : ByteArray) (hp : StrsIn W A p) (hq : q = p.length) (hq2 : q ≤ 1000) (hc : q ≤ c) (hcm : c ≤ maxLen) (hx : x.size ≤ 400) (hs : ∀ s ∈ p, s.size ≤ 400) (hr : r.size ≤ 400) (hj : M63 m) (hi : M63 n) :
    Calls Tryd.prog 17 #[.string x, .int .i64 m, .int .i64 n, .slice A q c, .string r] W (HasP w ss rs (.int .i64 (chkI x m n p r))) :=
  (chkI_p x m n p A q c r W h.2.1 hp hq hq2 hc hcm hx hs hr hj hi).mono fun _ _ k => ⟨k.1, h.on k.2⟩
theorem has_chkC (h : Has w W ss rs) (m n : Int) (p : List ByteArray) (A : Option Addr) (q c : Nat) (x y : ByteArray) (hp : StrsIn W A p) (hq : q = p.length) (hq2 : q ≤ 1000) (hc : q ≤ c) (hcm : c ≤ maxLen) (hx : x.size ≤ 400) (hs : ∀ s ∈ p, s.size ≤ 400) (hy : y.size ≤ 400) (hj : M63 m) (hi : M63 n) :
    Calls Tryd.prog 20 #[.int .i64 m, .int .i64 n, .slice A q c, .string x, .string y] W (HasP w ss rs (.int .i64 (chkC m n p x y))) :=
  (chkC_p m n p A q c x y W h.2.1 hp hq hq2 hc hcm hx hs hy hj hi).mono fun _ _ k => ⟨k.1, h.on k.2⟩
theorem has_node (h : Has w W ss rs) (a b : ByteArray) (hl : a.size + b.size ≤ 999) : Calls Tryd.prog 34 #[.string a, .string b] W (HasP w ss rs (.string (nodeB a b))) :=
  (rnodehash_any a b W hl).mono fun _ _ k => ⟨k.1, h.on k.2⟩
/-- Two rows that the law holds, compared. -/
theorem has_same (h : Has w W ss rs) (A B : Option Addr) (k q c d : Nat) (xs ys : List ByteArray) (hx : (.slice A k c, xs) ∈ rs) (hy : (.slice B q d, ys) ∈ rs) (hn : xs.length ≤ 100000) (e : xs = ys) :
    Calls Tryd.prog 14 #[.slice A k c, .slice B q d] W (HasP w ss rs (.bool true)) := by
  obtain ⟨a1, a2, a3, a4⟩ := (h.2.2.2 _ hx).ins
  obtain ⟨b1, b2, b3, b4⟩ := (h.2.2.2 _ hy).ins
  rw [a1, b1]
  refine (rsame_any A B c d xs ys W a4 b4 hn (by rw [← e]; exact hn)).mono fun _ _ k => ?_
  obtain ⟨b, he, hb, q, rfl⟩ := k
  rw [hb.2 e] at he
  exact ⟨he, h.on (below_drewN (Below.refl _ _) q)⟩
end
theorem leaf_sizes (us : List Int) : (digS us).size = 32 := digS_size us
theorem bytes_one (x : Int) (hx : 0 ≤ x ∧ x < 256) (W : World) : BytesIn (W.alloc (.cells #[.int .u8 x] 5 (1, 2))) (some ⟨W.heap.size, 0, none⟩) 1 [x] := by
  refine ⟨fun _ => ⟨_, rfl, by simp, fun i e he => ?_⟩, fun e he => by rw [List.mem_singleton.1 he]; exact hx, by simp, by unfold maxLen; omega, fun e => by cases e⟩
  rw [Addr.add_lit, Nat.zero_add, cell_of_row _ _ i _ _ (1, 2) (heap_alloc_new _ _)]
  match i, he with
  | 0, he => cases he; rfl
theorem path_three (a b c : ByteArray) : inclL [a, b, c] 2 3 = [nodeB a b] := by
  rw [inclL_ok (by unfold badI; omega)]
  show pathB 2 [a, b, c] = _
  unfold pathB
  have hk : IsHalf [a, b, c].length 2 := ⟨⟨1, rfl⟩, by simp, by simp⟩
  rw [pathOf_right _ _ hk (by omega)]
  simp only [List.drop_succ_cons, List.drop_zero, List.take_succ_cons, List.take_zero]
  rw [pathOf_small _ _ (by simp)]
  have h2 : treeOf (digS []) nodeB [a, b] = nodeB a b := by
    rw [treeOf_join (k := 1) _ _ ⟨⟨0, rfl⟩, by simp, by simp⟩]
    simp only [List.take_succ_cons, List.take_zero, List.drop_succ_cons, List.drop_zero]
    rw [treeOf_one, treeOf_one]
  rw [h2]
  rfl
theorem proof_three (a b c : ByteArray) : consL [a, b, c] 2 3 = [c] := by
  rw [consL_ok (by unfold badC; omega) (by decide)]
  show proofB 2 [a, b, c] true = _
  unfold proofB
  have hk : IsHalf [a, b, c].length 2 := ⟨⟨1, rfl⟩, by simp, by simp⟩
  rw [proofOf_left _ _ hk (by omega) (by omega)]
  simp only [List.drop_succ_cons, List.drop_zero, List.take_succ_cons, List.take_zero]
  rw [proofOf_all _ _ (by omega) (by simp), treeOf_one]
  rfl
end Go.Proofs.YtggjofhhaokpcaaDoor
