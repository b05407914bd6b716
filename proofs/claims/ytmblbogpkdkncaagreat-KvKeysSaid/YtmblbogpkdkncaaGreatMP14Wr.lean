/- The program's reader: bytes, numbers, sums. The program's reader: a write; may a write be? -/
import Derived.Test.YtmblbogpkdkncaaGreatMT13RAll
import Derived.Test.YtmblbogpkdkncaaGreatMT14K
import Derived.Deep.QuietTactic
import Derived.BigQuiet
import Derived.IntWalk
import Derived.Deep.CutBlock
import Derived.RangeFuncSeq
import Derived.Test.YtmblbogpkdkncaaGreatMP14St
namespace Go.Proofs.YtmblbogpkdkncaaGreat
open Go.RowKit

/-- A reader has these bytes before it. -/
def RdAt (W : World) (rb : Nat) (us : List Int) : Prop := W.heap[rb]? = some (.cells #[.string (strOfNums us), .bool false] 119 (0, 0))
theorem RdAt.lt {W : World} {rb : Nat} {us : List Int} (h : RdAt W rb us) : rb < W.heap.size := (Array.getElem?_eq_some_iff.1 h).1
theorem RdAt.cells {W : World} {rb : Nat} {us : List Int} (h : RdAt W rb us) : W.cell? ⟨rb, 0, none⟩ = some (.string (strOfNums us)) ∧ W.cell? ⟨rb, 1, none⟩ = some (.bool false) ∧ W.frozen? ⟨rb, 0, none⟩ = false ∧ W.frozen? ⟨rb, 1, none⟩ = false :=
  ⟨by rw [cell_of_row W rb 0 _ _ (0, 0) h]; rfl, by rw [cell_of_row W rb 1 _ _ (0, 0) h]; rfl, frozen_of_row W rb 0 _ _ h, frozen_of_row W rb 1 _ _ h⟩
theorem RdAt.keep {W W' : World} {rb : Nat} {us : List Int} (h : RdAt W rb us) (hk : W'.heap[rb]? = W.heap[rb]?) : RdAt W' rb us := hk.trans h
theorem RdAt.on {W W' : World} {rb : Nat} {us : List Int} (h : RdAt W rb us) (hb : Below W.heap.size W W') : RdAt W' rb us := h.keep (hb.block rb h.lt)
theorem keepO_set (W : World) (rb i : Nat) (v : Value) : KeepO (fun x => x = rb) W (W.setCell ⟨rb, i, none⟩ v) :=
  ⟨rfl, rfl, rfl, (KeepsWalks.setCell W _ v).size, fun _ _ hk => heap_setCell_other _ _ _ _ hk⟩
theorem KeepO.then {O : Nat → Prop} {a b c : World} (h : KeepO O a b) (k : KeepO O b c) : KeepO O a c :=
  ⟨k.os.trans h.os, k.tape.trans h.tape, k.output.trans h.output, Nat.le_trans h.size k.size, fun i hi hO => (k.block i (Nat.lt_of_lt_of_le hi h.size) hO).trans (h.block i hi hO)⟩
theorem KeepO.below_then {O : Nat → Prop} {a b c : World} (h : KeepO O a b) (k : Below b.heap.size b c) : KeepO O a c := h.then (KeepO.of k)

set_option maxHeartbeats 1000000 in
theorem bytes_p {W : World} {rb : Nat} {us : List Int} (h : RdAt W rb us) (k : Nat) (hk : k ≤ us.length) (hl : us.length ≤ 17179869184) :
    Calls Tryz.prog 115 #[.pointer (some ⟨rb, 0, none⟩), .int .i64 (k : Int)] W (fun e w' => e = .returned (.string (strOfNums (us.take k))) ∧ RdAt w' rb (us.drop k) ∧ KeepO (fun x => x = rb) W w') := by
  obtain ⟨c0, -, f0, -⟩ := h.cells
  obtain ⟨s, hs⟩ : ∃ s, s = strOfNums us := ⟨_, rfl⟩
  have hz : s.size = us.length := by rw [hs]; exact size_str us
  have HR := Lib.hid (show (fun (e : Ending) w' => e = .returned (.string (strOfNums (us.take k))) ∧ RdAt w' rb (us.drop k) ∧ KeepO (fun x => x = rb) W w') (.returned (.string (s.extract 0 k))) (W.setCell ⟨rb, 0, none⟩ (.string (s.extract k s.size))) from
    ⟨by rw [hs, str_take], by
      rw [hz, hs, str_drop]
      exact heap_setCell_same W rb 0 _ _ _ h, keepO_set W rb 0 _⟩)
  rw [← hs] at c0
  have h1 : ¬ (s.size : Int) < (k : Int) := by omega
  have h2 : (k : Int) ≤ (s.size : Int) := by omega
  have h3 : s.size ≤ 17179869184 := by omega
  clear h hk hl hs hz
  go_enter Tryz.func115, Tryz.ntmps115
  go_wp2_with fail
  go_ret
  exact HR.out

theorem valL_next (us : List Int) (k : Nat) (u : Int) (h : us[k]? = some u) : valL (us.take (k + 1)) = valL (us.take k) * 256 + u.toNat := by
  rw [List.take_add_one, h]
  exact valL_snoc _ _
set_option maxHeartbeats 1000000 in
set_option maxRecDepth 100000 in
theorem number_p {W : World} {rb : Nat} {us : List Int} (h : RdAt W rb us) (hu : U8 us) (k : Nat) (hk : k ≤ us.length) (hk4 : k ≤ 4) (hl : us.length ≤ 17179869184) :
    Calls Tryz.prog 114 #[.pointer (some ⟨rb, 0, none⟩), .int .i64 (k : Int)] W (fun e w' => e = .returned (.int .i64 (valL (us.take k) : Int)) ∧ RdAt w' rb (us.drop k) ∧ KeepO (fun x => x = rb) W w') := by
  obtain ⟨ds, hds⟩ : ∃ ds, ds = us.take k := ⟨_, rfl⟩
  have hd : U8 ds := fun e he => hu e (by rw [hds] at he; exact List.mem_of_mem_take he)
  have hdl : ds.length = k := by rw [hds, List.length_take]; omega
  have HB := Lib.hid (bytes_p h k hk hl)
  rw [← hds] at HB ⊢
  have HC := Lib.hid (fun W => hdl ▸ bytes_back ds hd W)
  have HD := Lib.hid (And.intro hd hdl)
  have HV := Lib.hid (fun j u (h : ds[j]? = some u) => valL_next ds j u h)
  have HL := Lib.hid (fun j => valL_lt (ds.take j) fun e he => hd e (List.mem_of_mem_take he))
  clear h hu hk hl hds hd hdl
  go_enter Tryz.func114, Tryz.ntmps114
  go_wp2_with (go_at_call 115; refine HB.out.mono ?_; rintro e w1 ⟨rfl, h1, h2⟩; have H1 := Lib.hid (And.intro h1 h2); clear h1 h2; obtain ⟨cap, W2, hr, hb, hs, hc, hcs⟩ := HC.out w1; have H2 := Lib.hid (And.intro hb (And.intro hs (And.intro hc hcs))); clear hb hs hc hcs)
  clear hr
  go_loopg [5, 13] k (fun g v i wr => wr = W2 ∧ ∃ j : Nat, j ≤ k ∧ g = k - j ∧ i = .int .i64 (j : Int) ∧ v = .int .i64 (valL (ds.take j) : Int))
  case atStart => exact ⟨rfl, 0, by omega, rfl, rfl, rfl⟩
  case round =>
    obtain ⟨rfl, j, hj, rfl, rfl, rfl⟩ := hrel
    obtain ⟨x, hx⟩ : ∃ x, x = valL (ds.take j) := ⟨_, rfl⟩
    have hx1 : x < 4294967296 := by
      have h1 := HL.out j
      have h2 : 256 ^ (ds.take j).length ≤ 256 ^ 4 := Nat.pow_le_pow_right (by decide) (by rw [List.length_take]; omega)
      have h3 : 256 ^ 4 = 4294967296 := by decide
      omega
    rw [← hx]
    have HX := Lib.hid hx
    clear hx
    by_cases hlt : j < k
    · have hji : (j : Int) < (k : Int) := by omega
      have hdl := HD.out.2
      obtain ⟨u, hu⟩ : ∃ u, ds[j]? = some u := ⟨ds[j]'(by omega), List.getElem?_eq_getElem _⟩
      have hub := HD.out.1 u (List.mem_of_getElem? hu)
      obtain ⟨n, rfl⟩ : ∃ n : Nat, u = (n : Int) := ⟨u.toNat, by omega⟩
      have hc := H2.out.2.2.2 j (by omega)
      rw [show ds.getD j 0 = (n : Int) by rw [List.getD_eq_getElem?_getD, hu]; rfl] at hc
      have hor := or8_i64 x n (by omega) (by omega)
      have hwx : IntKind.i64.wrap ((x : Int) * 256) = (x : Int) * 256 := IntWalk.i64_in _ (by omega)
      have HN := Lib.hid (HV.out j _ hu)
      have hcap := H2.out.2.2.1
      have HWn := Lib.hid (IntWalk.wrap64_in (n : Int) (by omega))
      have HOr := Lib.hid hor
      clear hor
      clear hu hub hdl
      go_wp2_with fail
      go_roundg (k - (j + 1))
      case measure => omega
      case rel => exact ⟨rfl, j + 1, by omega, rfl, by go_num, by rw [HN.out, ← HX.out, Int.toNat_natCast, ← HOr.out, HWn.out]⟩
    · have hji : ¬ (j : Int) < (k : Int) := by omega
      have HK := Lib.hid (show ds.take j = ds from List.take_of_length_le (by have := HD.out.2; omega))
      go_wp2_with fail
      go_ret
      obtain ⟨h1, h2⟩ := H1.out
      have hb := H2.out.1
      exact ⟨by rw [HX.out, HK.out]; rfl, h1.on hb, h2.below_then hb⟩
set_option maxHeartbeats 1000000 in
set_option maxRecDepth 100000 in
theorem sum_p (us : List Int) (hu : U8 us) (hl : us.length ≤ 17179869184) (W : World) :
    Calls Tryz.prog 100 #[.string (strOfNums us)] W (fun e w' => e = .returned (.int .i64 (sumF us)) ∧ w' = W) := by
  obtain ⟨s, hs⟩ : ∃ s, s = strOfNums us := ⟨_, rfl⟩
  obtain ⟨n, hn⟩ : ∃ n, n = us.length := ⟨_, rfl⟩
  have hz : s.size = n := by rw [hs, hn]; exact size_str us
  have HS := Lib.hid (fun j u (h : us[j]? = some u) => show ∃ b : UInt8, s.data[j]? = some b ∧ ((b.toNat : Nat) : Int) = u from by
    have hj := (List.getElem?_eq_some_iff.1 h).1
    refine ⟨UInt8.ofNat u.toNat, ?_, ?_⟩
    · rw [hs]
      show (List.map _ us).toArray[j]? = _
      rw [List.getElem?_toArray, List.getElem?_map, h]
      rfl
    · have := hu u (List.mem_of_getElem? h)
      rw [UInt8.toNat_ofNat']
      omega)
  have HF := Lib.hid (fun j u (h : us[j]? = some u) => show sumF (us.take (j + 1)) = sumR (sumF (us.take j)) u from by
    rw [List.take_add_one, h]
    exact List.foldl_append)
  have HG := Lib.hid (fun j => sumF_range (us.take j))
  have HH := Lib.hid (And.intro hu hn)
  rw [← hs]
  have hn2 : n ≤ 17179869184 := by omega
  clear hs hu hl hn
  go_enter Tryz.func100, Tryz.ntmps100
  go_wp2_with fail
  go_loopg [3, 4, 7] n (fun g v _ i wr => wr = W ∧ ∃ j : Nat, j ≤ n ∧ g = n - j ∧ i = .int .i64 (j : Int) ∧ v = .int .u32 (sumF (us.take j)))
  case atStart => exact ⟨rfl, 0, by omega, rfl, rfl, rfl⟩
  case round =>
    obtain ⟨rfl, j, hj, rfl, rfl, rfl⟩ := hrel
    obtain ⟨x, hx⟩ : ∃ x, x = sumF (us.take j) := ⟨_, rfl⟩
    have hx1 := HG.out j
    rw [← hx] at hx1 ⊢
    have HX := Lib.hid hx
    obtain ⟨hx1, hx2⟩ := hx1
    clear hx
    by_cases hlt : j < n
    · have hji : (j : Int) < (n : Int) := by omega
      obtain ⟨u, hu⟩ : ∃ u, us[j]? = some u := ⟨us[j]'(by have := HH.out.2; omega), List.getElem?_eq_getElem _⟩
      obtain ⟨b, hb, hbu⟩ := HS.out j u hu
      have HN := Lib.hid (HF.out j u hu)
      have HE := Lib.hid (show ∀ h : j < s.size, ((s[j].toNat : Nat) : Int) % 4294967296 = u from fun h => by
        have e : s[j] = b := Option.some.inj ((Array.getElem?_eq_getElem h).symm.trans hb)
        rw [e, hbu]
        have := HH.out.1 u (List.mem_of_getElem? hu)
        omega)
      clear hu hbu hb
      go_wp2_with fail
      go_roundg (n - (j + 1))
      case measure => omega
      case rel => exact ⟨rfl, j + 1, by omega, rfl, by go_num, by rw [HN.out, ← HX.out]; unfold sumR; rw [IntKind.wrap_u32, HE.out]⟩
    · have hji : ¬ (j : Int) < (n : Int) := by omega
      have HK := Lib.hid (show us.take j = us from List.take_of_length_le (by have := HH.out.2; omega))
      go_wp2_with fail
      go_ret
      refine ⟨?_, rfl⟩
      rw [HX.out, HK.out]
      rfl
end Go.Proofs.YtmblbogpkdkncaaGreat
namespace Go.Proofs.YtmblbogpkdkncaaGreat
open Go.RowKit

theorem keepO_of_cells {O : Nat → Prop} {W W' : World} (hk : KeepO O W W') {k : Nat} (hO : ¬ O k) (hl : k < W.heap.size) (i : Nat) : W'.cell? ⟨k, i, none⟩ = W.cell? ⟨k, i, none⟩ := by
  have h := hk.block k hl hO
  unfold World.cell?
  rw [h]
set_option maxHeartbeats 1000000 in
set_option maxRecDepth 100000 in
theorem mayNotBe_p (t : Wr) (hk : t.key.size ≤ 17179869184) (hv : t.val.size ≤ 17179869184) (W : World) :
    Calls Tryz.prog 45 #[wrV t] W (fun e w' => e = .returned (.bool (!mayW t)) ∧ Below W.heap.size W w') := by
  have HB := Lib.hid (box_wr W t)
  have HW := Lib.hid (show Below W.heap.size W (W.alloc (.cells #[.string t.key, .string t.val, .bool t.gone] 40)) from (Below.refl _ _).alloc (Nat.le_refl _) _)
  obtain ⟨xk, xv, xg⟩ := t
  obtain ⟨mm, hmm⟩ : ∃ mm, mm = mayW ⟨xk, xv, xg⟩ := ⟨_, rfl⟩
  have hm2 : mm = (decide (1 ≤ xk.size) && decide (xk.size ≤ 200) && decide (xv.size ≤ 1048576) && (!xg || decide (xv.size = 0))) := hmm
  rw [← hmm]
  unfold wrV
  clear hmm
  simp only at hk hv HB HW
  go_enter Tryz.func45, Tryz.ntmps45
  go_upto_region 1 with fail
  obtain ⟨W1, hW1⟩ : ∃ W1, W1 = W.alloc (.cells #[.string xk, .string xv, .bool xg] 40) := ⟨_, rfl⟩
  have HB1 := Lib.hid (hW1 ▸ HB.out)
  have HW1 := Lib.hid (hW1 ▸ HW.out)
  rw [← hW1]
  clear hW1 HB HW
  obtain ⟨c0, c1, c2⟩ := HB1.out.2
  by_cases h1 : 1 ≤ xk.size
  · have i1 : ((xk.size : Int) == 0) = false := by rw [beq_eq_false_iff_ne]; omega
    by_cases h2 : xk.size ≤ 200
    · have i2 : ¬ (200 : Int) < (xk.size : Int) := by omega
      by_cases h3 : xv.size ≤ 1048576
      · have i3 : ¬ (1048576 : Int) < (xv.size : Int) := by omega
        cases xg with
        | false =>
          have HV := Lib.hid (show mm = true by rw [hm2, decide_eq_true h1, decide_eq_true h2, decide_eq_true h3]; rfl)
          clear hm2 h1 h2 h3
          go_wp2_with fail
          go_ret
          exact ⟨by rw [HV.out]; rfl, HW1.out⟩
        | true =>
          by_cases h4 : xv.size = 0
          · have HV := Lib.hid (show mm = true by rw [hm2, decide_eq_true h1, decide_eq_true h2, decide_eq_true h3, decide_eq_true h4]; rfl)
            have hv : xv = ⟨#[]⟩ := by
              obtain ⟨a⟩ := xv
              have : a.size = 0 := h4
              rw [Array.eq_empty_of_size_eq_zero this]
            subst hv
            clear hm2 h1 h2 h3 h4
            go_wp2_with fail
            go_ret
            exact ⟨by rw [HV.out]; rfl, HW1.out⟩
          · have HV := Lib.hid (show mm = false by rw [hm2, decide_eq_true h1, decide_eq_true h2, decide_eq_true h3, decide_eq_false h4]; rfl)
            have hv : (xv.toList == []) = false := by
              rw [beq_eq_false_iff_ne]
              intro e
              rw [Lib.toList_data] at e
              exact h4 (by show xv.data.size = 0; rw [← Array.length_toList, e]; rfl)
            clear hm2 h1 h2 h3 h4
            go_wp2_with fail
            go_ret
            exact ⟨by rw [HV.out]; rfl, HW1.out⟩
      · have i3 : (1048576 : Int) < (xv.size : Int) := by omega
        have HV := Lib.hid (show mm = false by rw [hm2, decide_eq_true h1, decide_eq_true h2, decide_eq_false h3]; rfl)
        clear hm2 h1 h2 h3
        go_wp2_with fail
        go_ret
        exact ⟨by rw [HV.out]; rfl, HW1.out⟩
    · have i2 : (200 : Int) < (xk.size : Int) := by omega
      have HV := Lib.hid (show mm = false by rw [hm2, decide_eq_true h1, decide_eq_false h2]; rfl)
      clear hm2 h1 h2
      go_wp2_with fail
      go_ret
      exact ⟨by rw [HV.out]; rfl, HW1.out⟩
  · have i1 : ((xk.size : Int) == 0) = true := by rw [beq_iff_eq]; omega
    have HV := Lib.hid (show mm = false by rw [hm2, decide_eq_false h1]; rfl)
    clear hm2 h1
    go_wp2_with fail
    go_ret
    exact ⟨by rw [HV.out]; rfl, HW1.out⟩
/-! What a write is, from its bytes. -/
def wr3 (w : World) (c : Nat) (x y z : Value) : World := ((w.setCell ⟨c, 0, none⟩ x).setCell ⟨c, 1, none⟩ y).setCell ⟨c, 2, none⟩ z
theorem wr3_row {w : World} {c : Nat} {t : TypeId} {a b e : Value} (x y z : Value) (h : w.heap[c]? = some (.cells #[a, b, e] t (0, 0))) : (wr3 w c x y z).heap[c]? = some (.cells #[x, y, z] t (0, 0)) := by
  have h1 := heap_setCell_same w c 0 _ _ x h
  have h2 := heap_setCell_same _ c 1 _ _ y h1
  exact heap_setCell_same _ c 2 _ _ z h2
theorem wr3_keep (w : World) (c : Nat) (x y z : Value) : KeepO (fun k => k = c) w (wr3 w c x y z) := ((keepO_set w c 0 x).then (keepO_set _ c 1 y)).then (keepO_set _ c 2 z)
theorem take_left {α : Type} {a b : List α} {k : Nat} (h : a.length = k) : (a ++ b).take k = a := by subst h; exact List.take_left
theorem drop_left {α : Type} {a b : List α} {k : Nat} (h : a.length = k) : (a ++ b).drop k = b := by subst h; exact List.drop_left
theorem RdAt.u8 {us vs : List Int} (h : U8 (us ++ vs)) : U8 vs := fun e he => h e (List.mem_append_right _ he)
set_option maxHeartbeats 2000000 in
set_option maxRecDepth 100000 in
theorem write_p {W : World} {rb : Nat} {t : Wr} {us : List Int} (h : RdAt W rb (wrL t ++ us)) (hu : U8 us) (hm : mayW t = true) (hl : (wrL t ++ us).length ≤ 17179869184) :
    Calls Tryz.prog 117 #[.pointer (some ⟨rb, 0, none⟩)] W (fun e w' => e = .returned (wrV t) ∧ RdAt w' rb us ∧ KeepO (fun x => x = rb) W w') := by
  obtain ⟨m1, m2, m3, m4⟩ := may_facts hm
  have ha : aftW t < 16777216 := by unfold aftW; split <;> omega
  obtain ⟨kn, hkn⟩ : ∃ kn, kn = t.key.size := ⟨_, rfl⟩
  obtain ⟨vn, hvn⟩ : ∃ vn, vn = t.val.size := ⟨_, rfl⟩
  obtain ⟨an, han⟩ : ∃ an, an = aftW t := ⟨_, rfl⟩
  obtain ⟨u3, hu3⟩ : ∃ u3, u3 = txt t.val ++ us := ⟨_, rfl⟩
  obtain ⟨u2, hu2⟩ : ∃ u2, u2 = txt t.key ++ u3 := ⟨_, rfl⟩
  obtain ⟨u1, hu1⟩ : ∃ u1, u1 = numL 3 an ++ u2 := ⟨_, rfl⟩
  have e0 : wrL t ++ us = numL 1 kn ++ u1 := by
    rw [hu1, hu2, hu3, hkn, han]
    unfold wrL
    simp only [List.append_assoc]
  rw [e0] at h hl
  have z1 : u1.length = 3 + u2.length := by rw [hu1, List.length_append, numL_length]
  have z2 : u2.length = kn + u3.length := by rw [hu2, List.length_append, txt_length, hkn]
  have z3 : u3.length = vn + us.length := by rw [hu3, List.length_append, txt_length, hvn]
  rw [List.length_append, numL_length] at hl
  have g3 : U8 u3 := hu3 ▸ u8_app (txt_bytes _) hu
  have g2 : U8 u2 := hu2 ▸ u8_app (txt_bytes _) g3
  have g1 : U8 u1 := hu1 ▸ u8_app (numL_bytes _ _) g2
  have N1 := Lib.hid (fun W (h : RdAt W rb (numL 1 kn ++ u1)) => show Calls Tryz.prog 114 #[.pointer (some ⟨rb, 0, none⟩), .int .i64 1] W (fun e w' => e = .returned (.int .i64 (kn : Int)) ∧ RdAt w' rb u1 ∧ KeepO (fun x => x = rb) W w') from by
    have k := number_p h (u8_app (numL_bytes _ _) g1) 1 (by rw [List.length_append, numL_length]; omega) (by omega) (by rw [List.length_append, numL_length]; omega)
    rw [take_left (numL_length _ _), drop_left (numL_length _ _), valL_num 1 kn (by omega)] at k
    exact k)
  have N2 := Lib.hid (fun W (h : RdAt W rb u1) => show Calls Tryz.prog 114 #[.pointer (some ⟨rb, 0, none⟩), .int .i64 3] W (fun e w' => e = .returned (.int .i64 (an : Int)) ∧ RdAt w' rb u2 ∧ KeepO (fun x => x = rb) W w') from by
    have k := number_p h g1 3 (by omega) (by omega) (by omega)
    rw [hu1, take_left (numL_length _ _), drop_left (numL_length _ _), valL_num 3 an (by omega)] at k
    exact k)
  have N3 := Lib.hid (fun W (h : RdAt W rb u2) => show Calls Tryz.prog 115 #[.pointer (some ⟨rb, 0, none⟩), .int .i64 (kn : Int)] W (fun e w' => e = .returned (.string t.key) ∧ RdAt w' rb u3 ∧ KeepO (fun x => x = rb) W w') from by
    have k := bytes_p h kn (by omega) (by omega)
    rw [hu2, take_left (by rw [txt_length, hkn]), drop_left (by rw [txt_length, hkn]), str_txt] at k
    exact k)
  have N4 := Lib.hid (fun W (h : RdAt W rb u3) => show Calls Tryz.prog 115 #[.pointer (some ⟨rb, 0, none⟩), .int .i64 (vn : Int)] W (fun e w' => e = .returned (.string t.val) ∧ RdAt w' rb us ∧ KeepO (fun x => x = rb) W w') from by
    have k := bytes_p h vn (by omega) (by omega)
    rw [hu3, take_left (by rw [txt_length, hvn]), drop_left (by rw [txt_length, hvn]), str_txt] at k
    exact k)
  have M := Lib.hid (fun W => mayNotBe_p t (by omega) (by omega) W)
  rw [hm] at M
  have hg : ((an : Int) == 0) = t.gone := by
    rw [han]
    unfold aftW
    cases t.gone with
    | true => rfl
    | false => rw [beq_eq_false_iff_ne]; simp only [Bool.false_eq_true, if_false]; omega
  have hmax : max ((an : Int) - 1) 0 = (vn : Int) := by
    rw [han, hvn]
    unfold aftW
    cases hgo : t.gone with
    | true => rw [m4 hgo]; rfl
    | false => simp only [Bool.false_eq_true, if_false]; omega
  have hlt := h.lt
  have H0 := Lib.hid h
  obtain ⟨xk, xv, xg⟩ := t
  have an2 : an < 16777216 := by omega
  clear h hu hm hl m1 m2 m3 m4 ha hkn hvn han hu3 hu2 hu1 e0 z1 z2 z3 g1 g2 g3
  go_enter Tryz.func117, Tryz.ntmps117
  go_upto_region 1 with fail
  obtain ⟨W0, hW0⟩ : ∃ W0, W0 = W.alloc (.cells #[.string ⟨#[]⟩, .string ⟨#[]⟩, .bool false] 40) := ⟨_, rfl⟩
  have HA := Lib.hid (show RdAt W0 rb (numL 1 kn ++ u1) ∧ Below W.heap.size W W0 ∧ W0.heap.size = W.heap.size + 1 ∧ W0.heap[W.heap.size]? = some (.cells #[.string ⟨#[]⟩, .string ⟨#[]⟩, .bool false] 40 (0, 0)) from by
    have hb : Below W.heap.size W W0 := by rw [hW0]; exact (Below.refl _ _).alloc (Nat.le_refl _) _
    exact ⟨H0.out.on hb, hb, by rw [hW0]; simp, by rw [hW0]; exact heap_alloc_new W _⟩)
  rw [← hW0]
  clear hW0
  obtain ⟨c, hc⟩ : ∃ c, c = W.heap.size := ⟨_, rfl⟩
  have HC := Lib.hid hc
  rw [← hc] at HA ⊢
  clear hc hlt
  go_upto_region 2 with (first
    | (go_at_call_of 114 (Value.int IntKind.i64 1); refine (N1.out _ HA.out.1).mono ?_; rintro e w1 ⟨rfl, h1, k1⟩; have H1 := Lib.hid (And.intro h1 k1); clear h1 k1)
    | (go_at_call_of 114 (Value.int IntKind.i64 3); refine (N2.out _ H1.out.1).mono ?_; rintro e w2 ⟨rfl, h1, k1⟩; have H2 := Lib.hid (And.intro h1 k1); clear h1 k1))
  go_upto_region 3 with (go_at_call 115; refine (N3.out _ H2.out.1).mono ?_; rintro e w3 ⟨rfl, h1, k1⟩; have H3 := Lib.hid (And.intro h1 k1); clear h1 k1)
  clear hg
  obtain ⟨W3, hW3⟩ : ∃ W3, W3 = w3.alloc (.cells #[.string xk, .string ⟨#[]⟩, .bool xg] 40) := ⟨_, rfl⟩
  obtain ⟨d, hd⟩ : ∃ d, d = w3.heap.size := ⟨_, rfl⟩
  have HK3 := Lib.hid (show RdAt W3 rb u3 ∧ W3.heap[d]? = some (.cells #[.string xk, .string ⟨#[]⟩, .bool xg] 40 (0, 0)) ∧ d ≠ rb ∧ KeepO (fun x => x = rb) W W3 ∧ W3.heap[c]? = some (.cells #[.string ⟨#[]⟩, .string ⟨#[]⟩, .bool false] 40 (0, 0)) ∧ d < W3.heap.size ∧ c < d ∧ c ≠ rb from by
    have hb : Below w3.heap.size w3 W3 := by rw [hW3]; exact (Below.refl _ _).alloc (Nat.le_refl _) _
    have k0 := KeepO.of (O := fun x => x = rb) (by have := HA.out.2.1; rwa [HC.out] at this : Below W.heap.size W W0)
    have k3 : KeepO (fun x => x = rb) W0 w3 := H1.out.2.then (H2.out.2.then H3.out.2)
    have hlt := H0.out.lt
    have hcr : c ≠ rb := by have := HC.out; omega
    have hcl : c < W0.heap.size := by have := HA.out.2.2.1; omega
    have hcz := k3.size
    exact ⟨H3.out.1.on hb, by rw [hW3, hd]; exact heap_alloc_new w3 _, by have := H3.out.1.lt; omega, (k0.then k3).below_then hb, by rw [hb.block c (by omega), k3.block c hcl hcr]; exact HA.out.2.2.2, by rw [hW3, hd]; simp, by omega, hcr⟩)
  rw [← hW3, ← hd]
  clear hW3 hd H1 H2 H3 HA
  have H5 := Lib.hid (fun W4 (h1 : RdAt W4 rb us) (k1 : KeepO (fun x => x = rb) W3 W4) => show W4.heap[d]? = some (.cells #[.string xk, .string ⟨#[]⟩, .bool xg] 40 (0, 0)) ∧ RdAt (W4.setCell ⟨d, 1, none⟩ (.string xv)) rb us ∧ (W4.setCell ⟨d, 1, none⟩ (.string xv)).heap[d]? = some (.cells #[.string xk, .string xv, .bool xg] 40 (0, 0)) ∧ KeepO (fun x => x = rb) W (W4.setCell ⟨d, 1, none⟩ (.string xv)) ∧ (W4.setCell ⟨d, 1, none⟩ (.string xv)).heap[c]? = some (.cells #[.string ⟨#[]⟩, .string ⟨#[]⟩, .bool false] 40 (0, 0)) from by
    obtain ⟨a1, a2, a3, a4, a5, a6, a7, a8⟩ := HK3.out
    have b1 := (k1.block d a6 a3).trans a2
    have hz := a4.size
    have hs := keepO_set W4 d 1 (.string xv)
    refine ⟨b1, h1.keep (hs.block rb h1.lt (Ne.symm a3)), by rw [heap_setCell_same W4 d 1 _ _ (.string xv) b1]; rfl, ?_, ?_⟩
    · refine ⟨hs.os.trans (k1.os.trans a4.os), hs.tape.trans (k1.tape.trans a4.tape), hs.output.trans (k1.output.trans a4.output), Nat.le_trans a4.size (Nat.le_trans k1.size hs.size), fun x hx hxr => ?_⟩
      have hxd : x ≠ d := by have := HC.out; omega
      have := k1.size
      rw [hs.block x (by omega) hxd, k1.block x (by omega) hxr, a4.block x hx hxr]
    · have hcz := k1.size
      rw [hs.block c (by omega) (by omega), k1.block c (by omega) a8]
      exact a5)
  go_upto_region 4 with (go_at_call 115; refine (N4.out _ HK3.out.1).mono ?_; rintro e w4 ⟨rfl, h1, k1⟩; have H4 := Lib.hid (H5.out w4 h1 k1); clear h1 k1; have b1 := cell_of_row w4 d 1 _ _ (0, 0) H4.out.1; have b2 := frozen_of_row w4 d 1 _ _ H4.out.1)
  clear b1 b2
  obtain ⟨W5, hW5⟩ : ∃ W5, W5 = w4.setCell ⟨d, 1, none⟩ (.string xv) := ⟨_, rfl⟩
  have HE := Lib.hid (hW5 ▸ H4.out.2)
  rw [← hW5]
  clear hW5 H4 H5 HK3
  have c0 := cell_of_row W5 d 0 _ _ (0, 0) HE.out.2.1
  have c1 := cell_of_row W5 d 1 _ _ (0, 0) HE.out.2.1
  have c2 := cell_of_row W5 d 2 _ _ (0, 0) HE.out.2.1
  go_upto_region 6 with (go_at_call 45; refine (M.out _).mono ?_; rintro e w6 ⟨rfl, h1⟩; have H6 := Lib.hid h1; clear h1)
  have e0 := cell_of_row w6 d 0 _ _ (0, 0) ((H6.out.block d (Array.getElem?_eq_some_iff.1 HE.out.2.1).1).trans HE.out.2.1)
  have e1 := cell_of_row w6 d 1 _ _ (0, 0) ((H6.out.block d (Array.getElem?_eq_some_iff.1 HE.out.2.1).1).trans HE.out.2.1)
  have e2 := cell_of_row w6 d 2 _ _ (0, 0) ((H6.out.block d (Array.getElem?_eq_some_iff.1 HE.out.2.1).1).trans HE.out.2.1)
  have hc6 := (H6.out.block c (Array.getElem?_eq_some_iff.1 HE.out.2.2.2).1).trans HE.out.2.2.2
  have g0 := cell_of_row w6 c 0 _ _ (0, 0) hc6
  have g1 := cell_of_row w6 c 1 _ _ (0, 0) hc6
  have g2 := cell_of_row w6 c 2 _ _ (0, 0) hc6
  have f0 := frozen_of_row w6 c 0 _ _ hc6
  have f1 := frozen_of_row w6 c 1 _ _ hc6
  have f2 := frozen_of_row w6 c 2 _ _ hc6
  have HC6 := Lib.hid hc6
  clear c0 c1 c2 hc6
  go_wp2_with fail
  have hr := wr3_row (.string xk) (.string xv) (.bool xg) HC6.out
  have hk := wr3_keep w6 c (.string xk) (.string xv) (.bool xg)
  refine bodyPost_ret (results_cell_row rfl _ _ _ 40 _ (0, 0) _ rfl hr Tryz.underlying40 rfl (by kernel_rfl)) rfl ⟨rfl, ?_, ?_⟩
  · have h1 := HE.out.1.on H6.out
    refine h1.keep (hk.block rb h1.lt ?_)
    have := H0.out.lt
    have := HC.out
    omega
  · have k1 := HE.out.2.2.1.below_then H6.out
    refine ⟨hk.os.trans k1.os, hk.tape.trans k1.tape, hk.output.trans k1.output, Nat.le_trans k1.size hk.size, fun x hx hxr => ?_⟩
    have h1 := HC.out
    have h2 := k1.size
    exact (hk.block x (by omega) (by omega)).trans (k1.block x hx hxr)
end Go.Proofs.YtmblbogpkdkncaaGreat
