/- Contracts of the program's sixteen and unescape. -/
import Derived.Test.YtbkpnbagmojkaaaDoorP7Name
import Derived.Test.YtbkpnbagmojkaaaDoorP7NPath
import Derived.Test.YtbkpnbagmojkaaaDoorT7QueryWM
import Derived.Deep.QuietTactic
import Derived.Lib.JoinLaws
namespace Go.Proofs.YtbkpnbagmojkaaaDoor
open Go.RowKit

theorem sixteen_val : ∀ c : Fin 256, (if 16 ≤ Go.Lib.indexByte [48, 49, 50, 51, 52, 53, 54, 55, 56, 57, 97, 98, 99, 100, 101, 102, 65, 66, 67, 68, 69, 70] c.val.toUInt8 then Go.Lib.indexByte [48, 49, 50, 51, 52, 53, 54, 55, 56, 57, 97, 98, 99, 100, 101, 102, 65, 66, 67, 68, 69, 70] c.val.toUInt8 - 6 else Go.Lib.indexByte [48, 49, 50, 51, 52, 53, 54, 55, 56, 57, 97, 98, 99, 100, 101, 102, 65, 66, 67, 68, 69, 70] c.val.toUInt8) = digR (c.val : Int) := by decide +kernel
theorem ix_any (c : Int) (W : World) : Calls Tryd.prog 39 #[.string ⟨#[48, 49, 50, 51, 52, 53, 54, 55, 56, 57, 97, 98, 99, 100, 101, 102, 65, 66, 67, 68, 69, 70]⟩, .int .u8 c] W fun e w' => e = .returned (.int .i64 (Go.Lib.indexByte [48, 49, 50, 51, 52, 53, 54, 55, 56, 57, 97, 98, 99, 100, 101, 102, 65, 66, 67, 68, 69, 70] c.toNat.toUInt8)) ∧ w' = W :=
  Tryd.strings_IndexByte ⟨#[48, 49, 50, 51, 52, 53, 54, 55, 56, 57, 97, 98, 99, 100, 101, 102, 65, 66, 67, 68, 69, 70]⟩ c W
set_option maxHeartbeats 400000 in
theorem sixteen_any (c : Int) (h0 : 0 ≤ c) (h1 : c < 256) (w : World) : Calls Tryd.prog 35 #[.int .u8 c] w (fun e w' => e = .returned (.int .i64 (digR c)) ∧ w' = w) := by
  have hv := sixteen_val ⟨c.toNat, by omega⟩
  have p1 := fun W => ix_any c W
  simp only at hv
  rw [show ((c.toNat : Nat) : Int) = c by omega] at hv
  have hge := Go.Lib.indexByte_ge [48, 49, 50, 51, 52, 53, 54, 55, 56, 57, 97, 98, 99, 100, 101, 102, 65, 66, 67, 68, 69, 70] c.toNat.toUInt8
  generalize Go.Lib.indexByte [48, 49, 50, 51, 52, 53, 54, 55, 56, 57, 97, 98, 99, 100, 101, 102, 65, 66, 67, 68, 69, 70] c.toNat.toUInt8 = n at *
  have hr := digR_range c
  generalize digR c = d at *
  have P1 := Lib.hid p1
  have HV := Lib.hid hv
  have hn : -1 ≤ n ∧ n ≤ 21 := by split at hv <;> omega
  obtain ⟨hn0, hn1⟩ := hn
  clear p1 hv hge hr
  by_cases h : 16 ≤ n
  · have HE := Lib.hid (show n - 6 = d by have := HV.out; rw [if_pos h] at this; exact this)
    go_enter Tryd.func35, Tryd.ntmps35
    go_wp2_with fail
    go_at_call 39
    refine (P1.out _).mono ?_
    rintro e w' ⟨rfl, rfl⟩
    go_wp2_with fail
    go_ret
    exact ⟨ret_int HE.out, rfl⟩
  · have HE := Lib.hid (show n = d by have := HV.out; rw [if_neg h] at this; exact this)
    go_enter Tryd.func35, Tryd.ntmps35
    go_wp2_with fail
    go_at_call 39
    refine (P1.out _).mono ?_
    rintro e w' ⟨rfl, rfl⟩
    go_wp2_with fail
    go_ret
    exact ⟨ret_int HE.out, rfl⟩

theorem bits_or16 : ∀ a b : Fin 16, bits BinOp.or IntKind.i64 ((a.val : Int) * 16) (b.val : Int) = 16 * (a.val : Int) + (b.val : Int) := by decide +kernel
theorem bits_or {x y : Int} (x0 : 0 ≤ x) (x1 : x ≤ 15) (y0 : 0 ≤ y) (y1 : y ≤ 15) : bits BinOp.or IntKind.i64 (x * 16) y = 16 * x + y := by
  have h := bits_or16 ⟨x.toNat, by omega⟩ ⟨y.toNat, by omega⟩
  simp only at h
  rwa [show ((x.toNat : Nat) : Int) = x by omega, show ((y.toNat : Nat) : Int) = y by omega] at h
theorem txt_tail (s : ByteArray) (k : Nat) : txt (s.extract k s.size) = (txt s).drop k := by
  have h := extract_drop (txt s) k s.size (txt_length s).symm
  rw [str_txt] at h
  rw [h, txt_str _ (fun e he => txt_bytes s e (List.mem_of_mem_drop he))]
theorem Acc.room {w : World} (n : Nat) (hn : n ≤ 1000) : Acc w (w.alloc (.cells (madeCells #[.int .u8 0] n) 5)) (.slice (some ⟨w.heap.size, 0, none⟩) 0 n) [] :=
  ⟨⟨rfl, .inr ⟨w.heap.size, n, _, rfl, Nat.le_refl _, heap_alloc_new w _, Nat.zero_le _, by unfold maxLen; omega, by rw [size_madeCells]; simp, by simp⟩⟩, (Below.refl _ _).alloc (Nat.le_refl _) _⟩
/-- What unescape hands out. -/
def EscPost (w : World) (r : Option (List Int)) (e : Ending) (w' : World) : Prop := e = .returned (.tuple #[.string (strOfNums (r.getD [])), .bool r.isSome]) ∧ Below w.heap.size w w'

set_option maxRecDepth 100000 in
set_option maxHeartbeats 2000000 in
theorem unescape_any (s : ByteArray) (w : World) (hs : s.size ≤ 1000) : Calls Tryd.prog 25 #[.string s] w (EscPost w (unpct (txt s))) := by
  obtain ⟨R, hR⟩ : ∃ R, R = unpct (txt s) := ⟨_, rfl⟩
  rw [← hR]
  have hmk : (Instr.makeSlice 55 (.int .i64 0) (.int .i64 (s.size : Int))).run Tryd.prog w = .ok (.slice (some ⟨w.heap.size, 0, none⟩) 0 s.size) (w.alloc (.cells (madeCells #[.int .u8 0] s.size) 5)) :=
    run_make_room (P := Tryd.prog) 55 5 (.int .u8 0) 1 Tryd.underlying55 infoU8 rfl .i64 .i64 s.size (by omega) (by omega) w
  have hac := Acc.room (w := w) s.size hs
  obtain ⟨w1, hw1⟩ : ∃ W, W = w.alloc (.cells (madeCells #[.int .u8 0] s.size) 5) := ⟨_, rfl⟩
  rw [← hw1] at hmk hac
  obtain ⟨n, hn⟩ : ∃ n, n = s.size := ⟨_, rfl⟩
  have HN := Lib.hid hn
  have HR := Lib.hid hR
  have HA := Lib.hid hac
  clear hw1 hR hac hn
  go_enter Tryd.func25, Tryd.ntmps25
  go_wp2_with fail
  clear hmk
  go_loopg [0, 4] n (fun g sv v wr => ∃ (S : ByteArray) (ds : List Int), S.size ≤ n ∧ g = n - (n - S.size) ∧ sv = .string S ∧ Hid (ds.length + S.size ≤ n ∧ R = (unpct (txt S)).map fun t => ds ++ t) ∧ Hid (Acc w wr v ds))
  case atStart => exact ⟨s, [], by have := HN.out; omega, by have := HN.out; omega, rfl, Lib.hid ⟨by have := HN.out; simp; omega, by rw [HR.out]; simp⟩, HA⟩
  case round =>
    obtain ⟨S, ds, hSn, rfl, rfl, hv, hacc⟩ := hrel
    by_cases hz : S.size = 0
    · have hS0 : S = ⟨#[]⟩ := by rw [← str_txt S, List.length_eq_zero_iff.1 ((txt_length S).trans hz)]; rfl
      subst hS0
      have HE := Lib.hid (show R = some ds by rw [hv.out.2]; simp [show txt ⟨#[]⟩ = [] from rfl, unpct])
      obtain ⟨Y, m, c, rfl, h1, h2, h3, h4⟩ := hacc.out.form
      have hcv := hacc.out.conv h1
      have HB := Lib.hid hacc.out.2
      clear h1 h2 h3 h4 hacc hv
      have e0 : (⟨#[]⟩ : ByteArray).toList = [] := toList_none
      go_wp2_with fail
      go_ret2
      exact ⟨by rw [HE.out]; rfl, HB.out⟩
    · have hp : 0 < S.size := by omega
      have e0 : S.toList.isEmpty = false := by
        cases h : S.toList with
        | nil => exact absurd (by rw [toList_inj (h.trans toList_none.symm)]; rfl) hz
        | cons _ _ => rfl
      have ta := txt_at S 0 hp
      have tb := txt_tail S 1
      obtain ⟨T, hT⟩ : ∃ T, S.extract 1 S.size = T := ⟨_, rfl⟩
      rw [hT] at tb
      have HTS := Lib.hid (show T.size = S.size - 1 by rw [← txt_length, tb, List.length_drop, txt_length])
      obtain ⟨c, hc⟩ : ∃ c, ((S[0].toNat : Nat) : Int) = c := ⟨_, rfl⟩
      rw [hc] at ta
      have hcb := txt_bytes S c (List.mem_of_getElem? ta)
      obtain ⟨hc0, hc1⟩ := hcb
      have tS : txt S = c :: txt T := by
        rw [tb]
        obtain ⟨h1, h2⟩ := List.getElem?_eq_some_iff.1 ta
        conv => lhs; rw [← List.drop_zero (l := txt S), List.drop_eq_getElem_cons h1, h2]
      have HT := Lib.hid tS
      clear ta tb tS
      by_cases h37 : c = 37
      · by_cases h2 : T.size < 2
        · have h2z : (T.size : Int) < 2 := by omega
          have HE := Lib.hid (show R = none by rw [hv.out.2, HT.out, h37, unpct_short _ (by rw [txt_length]; exact h2)]; rfl)
          have HB := Lib.hid hacc.out.2
          clear hacc hv
          subst h37
          go_wp2_with fail
          go_ret2
          exact ⟨by rw [HE.out]; rfl, HB.out⟩
        · have h2z : ¬ (T.size : Int) < 2 := by omega
          have j0 : 0 < T.size := by omega
          have j1 : 1 < T.size := by omega
          have j1z : (1 : Int) < (T.size : Int) := by omega
          have j0z : (0 : Int) < (T.size : Int) := by omega
          have t0 := txt_at T 0 j0
          have t1 := txt_at T 1 j1
          have b0 := txt_bytes T _ (List.mem_of_getElem? t0)
          have b1 := txt_bytes T _ (List.mem_of_getElem? t1)
          obtain ⟨p, hpx⟩ : ∃ p, ((T[0].toNat : Nat) : Int) = p := ⟨_, rfl⟩
          obtain ⟨q, hqy⟩ : ∃ q, ((T[1].toNat : Nat) : Int) = q := ⟨_, rfl⟩
          rw [hpx] at t0 b0
          rw [hqy] at t1 b1
          obtain ⟨x, hx⟩ : ∃ x, x = digR p := ⟨_, rfl⟩
          obtain ⟨y, hy⟩ : ∃ y, y = digR q := ⟨_, rfl⟩
          have HX := Lib.hid (fun (W : World) => (show Calls Tryd.prog 35 #[.int .u8 p] W (fun e w' => e = .returned (.int .i64 x) ∧ w' = W) from by rw [hx]; exact sixteen_any _ b0.1 b0.2 W))
          have HY := Lib.hid (fun (W : World) => (show Calls Tryd.prog 35 #[.int .u8 q] W (fun e w' => e = .returned (.int .i64 y) ∧ w' = W) from by rw [hy]; exact sixteen_any _ b1.1 b1.2 W))
          have tb := txt_tail T 2
          obtain ⟨V, hV⟩ : ∃ V, T.extract 2 T.size = V := ⟨_, rfl⟩
          rw [hV] at tb
          have HVS := Lib.hid (show V.size = T.size - 2 by rw [← txt_length, tb, List.length_drop, txt_length])
          have hst : unpct (txt S) = if x < 0 ∨ y < 0 then none else (unpct (txt V)).map fun l => (16 * x + y) :: l := by
            obtain ⟨h3, h4⟩ := List.getElem?_eq_some_iff.1 t0
            obtain ⟨h5, h6⟩ := List.getElem?_eq_some_iff.1 t1
            have e : txt T = p :: q :: txt V := by
              rw [tb]
              conv => lhs; rw [← List.drop_zero (l := txt T), List.drop_eq_getElem_cons h3, List.drop_eq_getElem_cons h5, h4, h6]
            rw [HT.out, e, h37, unpct_pct, hx, hy]
          have rx := digR_range p
          have ry := digR_range q
          rw [← hx] at rx
          rw [← hy] at ry
          obtain ⟨x0, x1⟩ := rx
          obtain ⟨y0, y1⟩ := ry
          have HST := Lib.hid hst
          clear hst hx hy t0 t1 b0 b1 tb
          subst h37
          go_wp2_with fail
          go_quiet (first | (go_at_call_of 35 (Value.int .u8 p); exact Calls.quiet_of_same (HX.out _)) | (go_at_call_of 35 (Value.int .u8 q); exact Calls.quiet_of_same (HY.out _)))
          obtain ⟨wq, hwq⟩ : ∃ W, W = wr.drewN nq := ⟨_, rfl⟩
          have HQ := Lib.hid (hacc.out.on (below_drewN (Below.refl _ _) nq))
          rw [← hwq] at HQ ⊢
          clear hwq hacc
          by_cases hbad : x < 0 ∨ y < 0
          · have HE := Lib.hid (show R = none by rw [hv.out.2, HST.out, if_pos hbad]; rfl)
            have HB := Lib.hid HQ.out.2
            clear hv
            rcases Int.lt_or_le x 0 with g1 | g1
            · clear hbad
              go_wp2_with fail
              go_ret2
              exact ⟨by rw [HE.out]; rfl, HB.out⟩
            · have g2 : y < 0 := by omega
              have g3 : ¬ x < 0 := by omega
              clear hbad
              go_wp2_with fail
              go_ret2
              exact ⟨by rw [HE.out]; rfl, HB.out⟩
          · have g1 : ¬ x < 0 := by omega
            have g2 : ¬ y < 0 := by omega
            have hst : unpct (txt S) = (unpct (txt V)).map fun l => (16 * x + y) :: l := by rw [HST.out, if_neg hbad]
            have hdl := hv.out.1
            obtain ⟨Y, m, cp, w4, hap, hn, hacc4, -⟩ := HQ.out.one (16 * x + y) (by have := HN.out; omega)
            have HP := Lib.hid hap
            have HQ4 := Lib.hid (And.intro hst hacc4)
            have hbits := bits_or (show 0 ≤ x by omega) x1 (show 0 ≤ y by omega) y1
            have hw8 : (16 * x + y) % 256 = 16 * x + y := by omega
            clear hst hap hn hacc4 hdl hbad
            go_wp2_with (at_builtin; refine wpList_append_run rfl _ _ 55 rfl rfl rfl HP.out ?_)
            go_roundg (n - (n - V.size))
            case measure => have := HTS.out; have := HVS.out; omega
            case rel =>
              obtain ⟨hst, hacc4⟩ := HQ4.out
              have hts := HTS.out
              have hvs := HVS.out
              refine ⟨V, ds ++ [16 * x + y], by omega, rfl, rfl, Lib.hid ⟨by have := hv.out.1; simp only [List.length_append, List.length_cons, List.length_nil]; omega, ?_⟩, Lib.hid hacc4⟩
              rw [hv.out.2, hst]
              cases unpct (txt V) with
              | none => rfl
              | some t => simp
      · have hst := unpct_cons (txt T) h37
        have e37 : (c == 37) = false := beq_eq_false_iff_ne.2 h37
        have hdl := hv.out.1
        obtain ⟨Y, m, cp, w4, hap, hn, hacc4, -⟩ := hacc.out.one c (by have := HN.out; omega)
        have HP := Lib.hid hap
        have HQ4 := Lib.hid (And.intro hst hacc4)
        clear hacc hst hap hn hacc4 hdl
        go_wp2_with (at_builtin; refine wpList_append_run rfl _ _ 55 rfl rfl rfl HP.out ?_)
        go_roundg (n - (n - T.size))
        case measure => have := HTS.out; omega
        case rel =>
          obtain ⟨hst, hacc4⟩ := HQ4.out
          have hts := HTS.out
          refine ⟨T, ds ++ [c], by omega, rfl, rfl, Lib.hid ⟨by have := hv.out.1; simp only [List.length_append, List.length_cons, List.length_nil]; omega, ?_⟩, Lib.hid hacc4⟩
          rw [hv.out.2, HT.out, hst]
          cases unpct (txt T) with
          | none => rfl
          | some t => simp
end Go.Proofs.YtbkpnbagmojkaaaDoor
