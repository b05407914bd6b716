/- The document's example. -/
import Derived.Test.YtaijjjlpbpogfaaT13Told
import Derived.Lib.SlBytesConst
namespace Go.Proofs.Ytaijjjlpbpogfaa
open Go.RowKit

/-- The program's drive alone. -/
def HasP (w0 W : World) (b : Nat) (D : Dr) : Prop := ∃ O, PD W b D O ∧ (∀ k, O k → w0.heap.size ≤ k ∧ k < W.heap.size) ∧ Below w0.heap.size w0 W
theorem HasP.said {w0 W w' : World} {b : Nat} {D' : Dr} {O : Nat → Prop} (hO : ∀ k, O k → w0.heap.size ≤ k ∧ k < W.heap.size) (hb : Below w0.heap.size w0 W) (hp : PD w' b D' (NewO O W w')) (hk : KeepO O W w') : HasP w0 w' b D' := by
  refine ⟨NewO O W w', hp, fun k hn => ?_, KeepO.below hb hk fun k ho => (hO k ho).1⟩
  have hs := hb.size
  have := hk.size
  rcases hn with hn | hn
  · exact ⟨(hO k hn).1, Nat.lt_of_lt_of_le (hO k hn).2 hk.size⟩
  · exact ⟨by omega, hn.2⟩
theorem HasP.below {w0 W : World} {b : Nat} {D : Dr} (h : HasP w0 W b D) : Below w0.heap.size w0 W := by
  obtain ⟨O, -, -, h⟩ := h
  exact h
theorem one_call {w0 W : World} {b : Nat} {D D' : Dr} {f : FuncId} {args : Array Value} {v : Value} (h : HasP w0 W b D) (hc : ∀ O, PD W b D O → (∀ k, O k → k < W.heap.size) → Calls Try.prog f args W (PSays O W b D' v)) :
    Calls Try.prog f args W (fun e w' => e = .returned v ∧ HasP w0 w' b D') := by
  obtain ⟨O, h1, h2, h3⟩ := h
  exact (hc O h1 (fun k hk => (h2 k hk).2)).mono fun e w' ⟨k1, k2, k3⟩ => ⟨k1, HasP.said h2 h3 k2 k3⟩
/-- Something new was laid, and a call is asked with it. -/
theorem one_new {w0 W : World} {b : Nat} {D D' : Dr} {f : FuncId} {args : Array Value} {v : Value} (o : Obj) (h : HasP w0 W b D) (hc : ∀ O, PD (W.alloc o) b D O → (∀ k, O k → k < (W.alloc o).heap.size) → ¬ O W.heap.size → Calls Try.prog f args (W.alloc o) (PSays O (W.alloc o) b D' v)) :
    Calls Try.prog f args (W.alloc o) (fun e w' => e = .returned v ∧ HasP w0 w' b D') := by
  obtain ⟨O, h1, h2, h3⟩ := h
  have hb : Below W.heap.size W (W.alloc o) := (Below.refl _ _).alloc (Nat.le_refl _) o
  have h4 : ∀ k, O k → w0.heap.size ≤ k ∧ k < (W.alloc o).heap.size := fun k hk => ⟨(h2 k hk).1, Nat.lt_of_lt_of_le (h2 k hk).2 hb.size⟩
  exact (hc O (h1.keep (fun _ h => h) fun k _ hk => hb.block k hk) (fun k hk => (h4 k hk).2) (fun ho => by have := (h2 _ ho).2; omega)).mono fun e w' ⟨k1, k2, k3⟩ => ⟨k1, HasP.said h4 (h3.trans (hb.mono h3.size)) k2 k3⟩
theorem one_byte (W : World) (x : Int) (h0 : 0 ≤ x) (h1 : x < 256) : BytesIn (W.alloc (.cells #[.int .u8 x] 5 (1, 2))) (some ⟨W.heap.size, 0, none⟩) 1 [x] := by
  refine ⟨fun _ => ⟨_, rfl, by simp, fun i e he => ?_⟩, fun e he => by rw [List.mem_singleton.1 he]; exact ⟨h0, h1⟩, Nat.le_refl _, by decide, fun e => by cases e⟩
  match i, he with
  | 0, he =>
    cases he
    rw [Addr.add_lit]
    have h : (W.alloc (.cells #[.int .u8 x] 5 (1, 2))).heap[W.heap.size]? = some (.cells #[.int .u8 x] 5 (1, 2)) := by
      show (W.heap.push _)[W.heap.size]? = _
      simp
    unfold World.cell?
    rw [h]
    rfl
theorem one_int (W : World) (x : Int) (hx : M63 x) (O : Nat → Prop) (hO : ¬ O W.heap.size) : KeepIn (W.alloc (.cells #[.int .i64 x] 3)) O (some ⟨W.heap.size, 0, none⟩) [x] := fun i e he => by
  match i, he with
  | 0, he =>
    cases he
    refine ⟨hx, _, rfl, by simp, hO, ?_⟩
    rw [Addr.add_lit, cell_of_row _ W.heap.size _ _ _ (0, 0) (heap_alloc_new W _)]
    rfl
def sA : ByteArray := ⟨#[97]⟩
def dr1 : Dr := (createD (newD 100) sA).2
def dr2 : Dr := (appendD dr1 sA ⟨#[120]⟩).2
def dr3 : Dr := (syncD dr2 sA).2
def dr4 : Dr := (appendD dr3 sA ⟨#[121]⟩).2
def dr5 : Dr := (appendD dr4 sA ⟨#[122]⟩).2
def dr6 : Dr := armD dr5 0
def dr7 : Dr := (syncD dr6 sA).2
def dr8 : Dr := upD dr7 [1]
theorem dr_end : readT dr8 sA = ⟨#[120, 121]⟩ ∧ readE dr8 sA = 0 ∧ (syncD dr6 sA).1 = 13 := by
  refine ⟨?_, ?_, ?_⟩ <;> decide +kernel
theorem all1 : AllD dr1 1 := all_create _ (all_new (by decide))
theorem all2 : AllD dr2 2 := all_append _ _ all1 (by decide)
theorem all3 : AllD dr3 3 := all_sync _ all2
theorem all4 : AllD dr4 4 := all_append _ _ all3 (by decide)
theorem all5 : AllD dr5 5 := all_append _ _ all4 (by decide)
theorem all6 : AllD dr6 5 := all_arm _ all5 (by decide)
theorem all7 : AllD dr7 6 := all_sync _ all6
theorem all8 : AllD dr8 6 := all_up _ all7
/-- What a call answers is an error's number, whatever. -/
def Num (w0 : World) (b : Nat) (D : Dr) (e : Ending) (w' : World) : Prop := (∃ x, e = .returned (.int .i64 x)) ∧ HasP w0 w' b D
theorem to_num {w0 W : World} {b : Nat} {D : Dr} {f : FuncId} {args : Array Value} {x : Int} (h : Calls Try.prog f args W (fun e w' => e = .returned (.int .i64 x) ∧ HasP w0 w' b D)) : Calls Try.prog f args W (Num w0 b D) := h.mono fun _ _ k => ⟨⟨_, k.1⟩, k.2⟩
section
variable {w0 W : World} {b : Nat}
theorem l_create (h : HasP w0 W b (newD 100)) : Calls Try.prog 17 #[.pointer (some ⟨b, 0, none⟩), .string ⟨#[97]⟩] W (Num w0 b dr1) :=
  to_num (one_call h fun _ hp hO => pcreate hp ((all_new (by decide)).go (by decide)) hO sA (by decide))
theorem l_append {D : Dr} {n : Nat} (x : Int) (h0 : 0 ≤ x) (h1 : x < 256) (h : HasP w0 W b D) (hD : AllD D n) (hn : n ≤ 1000) : Calls Try.prog 18 #[.pointer (some ⟨b, 0, none⟩), .string ⟨#[97]⟩, .slice (some ⟨W.heap.size, 0, none⟩) 1 1] (W.alloc (.cells #[.int .u8 x] 5 (1, 2))) (Num w0 b (appendD D sA (strOfNums [x])).2) :=
  to_num (one_new _ h fun _ hp hO hf => pappend hp (hD.go hn) hO sA (by decide) _ 1 1 [x] (one_byte W x h0 h1) (fun a ha => by cases ha; exact hf) rfl (by decide))
theorem l_sync {D : Dr} {n : Nat} (h : HasP w0 W b D) (hD : AllD D n) (hn : n ≤ 1000) : Calls Try.prog 19 #[.pointer (some ⟨b, 0, none⟩), .string ⟨#[97]⟩] W (Num w0 b (syncD D sA).2) :=
  to_num (one_call h fun _ hp hO => psync hp (hD.go hn) hO sA (by decide))
theorem l_arm (h : HasP w0 W b dr5) : Calls Try.prog 27 #[.pointer (some ⟨b, 0, none⟩), .int .i64 0] W (fun e w' => e = .returned (.tuple #[]) ∧ HasP w0 w' b dr6) :=
  one_call h fun _ hp hO => parm hp (all5.go (by decide)) hO 0 ⟨by decide, by decide⟩
theorem l_sync2 (h : HasP w0 W b dr6) : Calls Try.prog 19 #[.pointer (some ⟨b, 0, none⟩), .string ⟨#[97]⟩] W (fun e w' => e = .returned (.int .i64 13) ∧ HasP w0 w' b dr7) := by
  have h1 := one_call h fun _ hp hO => psync hp (all6.go (by decide)) hO sA (by decide)
  rw [dr_end.2.2] at h1
  exact h1
theorem l_up (h : HasP w0 W b dr7) : Calls Try.prog 21 #[.pointer (some ⟨b, 0, none⟩), .slice (some ⟨W.heap.size, 0, none⟩) 1 1] (W.alloc (.cells #[.int .i64 1] 3)) (fun e w' => e = .returned (.tuple #[]) ∧ HasP w0 w' b dr8) :=
  one_new _ h fun O hp hO hf => pup hp (all7.go (by decide)) hO _ 1 1 [1] (one_int W 1 ⟨by decide, by decide⟩ O hf) rfl (by decide) (by decide)
theorem l_read (h : HasP w0 W b dr8) : Calls Try.prog 15 #[.pointer (some ⟨b, 0, none⟩), .string ⟨#[97]⟩] W (fun e w' => ∃ X c, e = .returned (.tuple #[.slice X 2 c, .int .i64 0]) ∧ (convert 33 9 (.slice X 2 c)).run Try.prog w' = .ok (.string ⟨#[120, 121]⟩) w' ∧ Below w0.heap.size w0 w') := by
  obtain ⟨O, h1, h2, h3⟩ := h
  refine (pread h1 (all8.go (by decide)) (fun k hk => (h2 k hk).2) sA (by decide)).mono ?_
  rintro e w' ⟨X, c, he, ho, hp, hk⟩
  rw [dr_end.1, dr_end.2.1] at he
  rw [dr_end.1] at ho
  have e2 : ByteArray.size ⟨#[120, 121]⟩ = 2 := rfl
  rw [e2] at he ho
  refine ⟨X, c, he, ?_, KeepO.below h3 hk fun k ho => (h2 k ho).1⟩
  have hc := conv_own ho
  rw [str_txt] at hc
  exact hc
end
theorem e120 : strOfNums [120] = ⟨#[120]⟩ := rfl
theorem e121 : strOfNums [121] = ⟨#[121]⟩ := rfl
theorem e122 : strOfNums [122] = ⟨#[122]⟩ := rfl
set_option maxRecDepth 100000 in
set_option maxHeartbeats 4000000 in
theorem lives13 (w : World) : Calls Try.prog 12 #[] w (fun e w' => e = .returned (.bool true) ∧ Below w.heap.size w w') := by
  have HN := Lib.hid (pnew_any 100 w (by decide))
  have kc := fun (w : World) (C : Array Value) (n c : Nat) => Lib.run_convert_bytes_const (P := Try.prog) w 33 5 C n c Try.underlying33 Try.underlying5
  go_enter Try.func12, Try.ntmps12
  go_upto_region 2 with (go_at_call 10; refine HN.out.mono ?_; rintro e w1 ⟨b, rfl, hp, hb⟩; have H0 : Hid (HasP w w1 b (newD 100)) := Lib.hid ⟨_, hp, fun k hk => hk, hb⟩; clear hp hb)
  go_upto_region 5 with (go_at_call 17; refine (l_create H0.out).mono ?_; rintro e w2 ⟨⟨x1, rfl⟩, h⟩; have H1 := Lib.hid h; clear h)
  go_upto_region 6 with (go_at_call 18; refine (l_append 120 (by decide) (by decide) H1.out all1 (by decide)).mono ?_; rintro e w3 ⟨⟨x2, rfl⟩, h⟩; have H2 : Hid (HasP w w3 b dr2) := Lib.hid h; clear h)
  go_upto_region 7 with (go_at_call 19; refine (l_sync H2.out all2 (by decide)).mono ?_; rintro e w4 ⟨⟨x3, rfl⟩, h⟩; have H3 : Hid (HasP w w4 b dr3) := Lib.hid h; clear h)
  go_upto_region 8 with (go_at_call 18; refine (l_append 121 (by decide) (by decide) H3.out all3 (by decide)).mono ?_; rintro e w5 ⟨⟨x4, rfl⟩, h⟩; have H4 : Hid (HasP w w5 b dr4) := Lib.hid h; clear h)
  go_upto_region 9 with (go_at_call 18; refine (l_append 122 (by decide) (by decide) H4.out all4 (by decide)).mono ?_; rintro e w6 ⟨⟨x5, rfl⟩, h⟩; have H5 : Hid (HasP w w6 b dr5) := Lib.hid h; clear h)
  go_upto_region 10 with (go_at_call 27; refine (l_arm H5.out).mono ?_; rintro e w7 ⟨rfl, h⟩; have H6 := Lib.hid h; clear h)
  go_upto_region 11 with (go_at_call 19; refine (l_sync2 H6.out).mono ?_; rintro e w8 ⟨rfl, h⟩; have H7 := Lib.hid h; clear h)
  go_upto_region 12 with (go_at_call 21; refine (l_up H7.out).mono ?_; rintro e w9 ⟨rfl, h⟩; have H8 := Lib.hid h; clear h)
  go_upto_region 13 with (go_at_call 15; refine (l_read H8.out).mono ?_; rintro e w10 ⟨X, c, rfl, hc, hb⟩; have HB := Lib.hid hb; clear hb)
  go_wp2_with fail
  go_ret
  exact ⟨by first | rfl | simp, HB.out⟩
end Go.Proofs.Ytaijjjlpbpogfaa
