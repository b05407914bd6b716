/- Drives with their stores beside blocks that are the law's. The law's like: a store has just these keys. The document's example. -/
import Derived.Test.YtmblbogpkdkncaaGreatT14Con
import Derived.Test.YtmblbogpkdkncaaGreatMP14M
import Derived.Deep.QuietTactic
import Derived.BigQuiet
import Derived.IntWalk
import Derived.Deep.CutBlock
namespace Go.Proofs.YtmblbogpkdkncaaGreat
open Go.RowKit

abbrev Site := Nat × Kd × List Sk
/-- Sites that own blocks apart from Y and from one another. -/
def HasK (w0 W : World) (Y : Nat → Prop) : List Site → Prop
  | [] => Below w0.heap.size w0 W ∧ ∀ k, Y k → k < W.heap.size
  | (b, D, ss) :: S => ∃ O, KS W b D ss O ∧ (∀ k, O k → w0.heap.size ≤ k ∧ k < W.heap.size) ∧ (∀ k, O k → ¬ Y k) ∧ HasK w0 W (fun k => Y k ∨ O k) S
theorem HasK.below {w0 W : World} : ∀ {S : List Site} {Y : Nat → Prop}, HasK w0 W Y S → Below w0.heap.size w0 W
  | [], _, h => h.1
  | (_, _, _) :: _, _, ⟨_, _, _, _, h⟩ => h.below
theorem HasK.lt {w0 W : World} : ∀ {S : List Site} {Y : Nat → Prop}, HasK w0 W Y S → ∀ k, Y k → k < W.heap.size
  | [], _, h => h.2
  | (_, _, _) :: _, _, ⟨_, _, _, _, h⟩ => fun k hk => h.lt k (.inl hk)
/-- What is touched is of Y; what is new of Y may grow. -/
theorem HasK.moved {w0 W W' : World} {O : Nat → Prop} (hk : KeepO O W W') (hO : ∀ k, O k → w0.heap.size ≤ k) : ∀ {S : List Site} {Y Y' : Nat → Prop}, HasK w0 W Y S → (∀ k, O k → Y k) → (∀ k, Y' k → Y k ∨ (W.heap.size ≤ k ∧ k < W'.heap.size)) → HasK w0 W' Y' S
  | [], Y, Y', h, _, hy => ⟨⟨hk.os.trans h.1.os, hk.tape.trans h.1.tape, hk.output.trans h.1.output, Nat.le_trans h.1.size hk.size, fun k hk1 => (hk.block k (Nat.lt_of_lt_of_le hk1 h.1.size) (fun ho => by have := hO k ho; omega)).trans (h.1.block k hk1)⟩, fun k hk' => by
      rcases hy k hk' with h2 | h2
      · exact Nat.lt_of_lt_of_le (h.2 k h2) hk.size
      · exact h2.2⟩
  | (b, D, ss) :: S, Y, Y', ⟨P, h1, h2, h3, h4⟩, ho, hy => by
    refine ⟨P, h1.keep (fun _ h => h) (fun k hp hl => hk.block k hl (fun hq => h3 k hp (ho k hq))), fun k hp => ⟨(h2 k hp).1, Nat.lt_of_lt_of_le (h2 k hp).2 hk.size⟩, fun k hp hY => ?_, HasK.moved hk hO h4 (fun k hq => .inl (ho k hq)) (fun k hq => ?_)⟩
    · rcases hy k hY with h5 | h5
      · exact h3 k hp h5
      · have := (h2 k hp).2
        omega
    · rcases hq with hq | hq
      · rcases hy k hq with h5 | h5
        · exact .inl (.inl h5)
        · exact .inr h5
      · exact .inl (.inr hq)
theorem HasK.on {w0 W W' : World} {Y : Nat → Prop} {S : List Site} (h : HasK w0 W Y S) (hb : Below W.heap.size W W') : HasK w0 W' Y S :=
  h.moved (O := fun _ => False) (KeepO.of hb) (fun _ h => h.elim) (fun _ h => h.elim) (fun _ h => .inl h)
/-- What is new is the law's. -/
theorem HasK.new {w0 W W' : World} {Y : Nat → Prop} {S : List Site} (h : HasK w0 W Y S) (hb : Below W.heap.size W W') : HasK w0 W' (fun k => Y k ∨ (W.heap.size ≤ k ∧ k < W'.heap.size)) S :=
  h.moved (O := fun _ => False) (KeepO.of hb) (fun _ h => h.elim) (fun _ h => h.elim) (fun _ h => h)
theorem HasK.less {w0 W : World} {Y Y' : Nat → Prop} {S : List Site} (h : HasK w0 W Y S) (hy : ∀ k, Y' k → Y k) : HasK w0 W Y' S :=
  h.moved (O := fun _ => False) (KeepO.refl _ _) (fun _ h => h.elim) (fun _ h => h.elim) (fun k h => .inl (hy k h))
theorem HasK.swap {w0 W : World} {Y : Nat → Prop} {s t : Site} {S : List Site} (h : HasK w0 W Y (s :: t :: S)) : HasK w0 W Y (t :: s :: S) := by
  obtain ⟨O, h1, h2, h3, P, g1, g2, g3, g4⟩ := h
  refine ⟨P, g1, g2, fun k hp hy => g3 k hp (.inl hy), O, h1, h2, fun k ho hy => ?_, g4.less fun k hk => ?_⟩
  · rcases hy with hy | hy
    · exact h3 k ho hy
    · exact g3 k hy (.inr ho)
  · rcases hk with (hk | hk) | hk
    · exact .inl (.inl hk)
    · exact .inr hk
    · exact .inl (.inr hk)
/-- What a call leaves. -/
def LeftK (w0 W : World) (Y : Nat → Prop) (S : List Site) (w' : World) : Prop := HasK w0 w' Y S ∧ ∀ k, Y k → w'.heap[k]? = W.heap[k]?
theorem HasK.told {w0 W W' : World} {Y O O' : Nat → Prop} {b : Nat} {D : Kd} {ss : List Sk} {S : List Site} (h2 : ∀ k, O k → w0.heap.size ≤ k ∧ k < W.heap.size) (h3 : ∀ k, O k → ¬ Y k) (h4 : HasK w0 W (fun k => Y k ∨ O k) S) (hp : KS W' b D ss O') (hO : ∀ k, O' k → NewO O W W' k) (hk : KeepO O W W') : LeftK w0 W Y ((b, D, ss) :: S) W' := by
  have hs := h4.below.size
  have hz := hk.size
  refine ⟨⟨O', hp, fun k hn => ?_, fun k hn hY => ?_, h4.moved hk (fun k ho => (h2 k ho).1) (fun k ho => .inr ho) (fun k hq => ?_)⟩, fun k hY => hk.block k (h4.lt k (.inl hY)) (fun ho => h3 k ho hY)⟩
  · rcases hO k hn with hn | hn
    · exact ⟨(h2 k hn).1, Nat.lt_of_lt_of_le (h2 k hn).2 hz⟩
    · exact ⟨by omega, hn.2⟩
  · rcases hO k hn with hn | hn
    · exact h3 k hn hY
    · have := h4.lt k (.inl hY)
      have := hn.1
      omega
  · rcases hq with hq | hq
    · exact .inl (.inl hq)
    · rcases hO k hq with hn | hn
      · exact .inl (.inr hn)
      · exact .inr hn
theorem hk_new {w0 W : World} {Y : Nat → Prop} {S : List Site} (h : HasK w0 W Y S) (q : Int) (h0 : 0 ≤ q) (h1 : q ≤ 16777216) : Calls Tryz.prog 7 #[.int .i64 q] W (fun e w' => ∃ b, e = .returned (.pointer (some ⟨b, 0, none⟩)) ∧ LeftK w0 W Y ((b, ⟨[], q.toNat, some 0⟩, []) :: S) w') :=
  (knew q W h0 h1).mono fun _ w' ⟨b, k1, k2, k3⟩ => ⟨b, k1, ⟨_, k2, fun k hk => ⟨Nat.le_trans h.below.size hk.1, hk.2⟩, fun k hk hy => by have := h.lt k hy; have := hk.1; omega, h.new k3⟩, fun k hy => k3.block k (h.lt k hy)⟩
section
variable {w0 W : World} {Y : Nat → Prop} {b : Nat} {D : Kd} {ss : List Sk} {S : List Site} (h : HasK w0 W Y ((b, D, ss) :: S))
include h
theorem hk_open (n : ByteArray) (hn : nameK n) (hl : D.lies.length ≤ 100 := by simp) : Calls Tryz.prog 8 #[.pointer (some ⟨b, 0, none⟩), .string n] W (fun e w' => ∃ ps, e = .returned (.tuple #[.pointer (some ⟨ps, 0, none⟩), .int .i64 0]) ∧ LeftK w0 W Y ((b, openK D n, ss ++ [(ps, n, liesAt D n)]) :: S) w') := by
  obtain ⟨O, h1, h2, h3, h4⟩ := h
  exact (kopen h1 (fun k hk => (h2 k hk).2) n hn hl).mono fun e w' ⟨ps, k1, k2, k3⟩ => ⟨ps, k1, HasK.told h2 h3 h4 k2 (fun _ h => h) k3⟩
theorem hk_open_bad (n : ByteArray) (hn : ¬ nameK n) (hs : n.size ≤ 1000) : Calls Tryz.prog 8 #[.pointer (some ⟨b, 0, none⟩), .string n] W (fun e w' => e = .returned (.tuple #[.pointer none, .int .i64 1]) ∧ LeftK w0 W Y ((b, D, ss) :: S) w') := by
  obtain ⟨O, h1, h2, h3, h4⟩ := h
  exact (kopen_bad h1 n hn hs).mono fun e w' ⟨k1, k2, k3⟩ => ⟨k1, HasK.told h2 h3 h4 k2 (fun _ h => h) k3⟩
theorem hk_used {u : Int} (hu : D.used = some u) : Calls Tryz.prog 15 #[.pointer (some ⟨b, 0, none⟩)] W (fun e w' => e = .returned (.int .i64 u) ∧ LeftK w0 W Y ((b, D, ss) :: S) w') := by
  obtain ⟨O, h1, h2, h3, h4⟩ := h
  exact (kused h1 (fun k hk => (h2 k hk).2) hu).mono fun e w' ⟨k1, k2, k3⟩ => ⟨k1, HasK.told h2 h3 h4 k2 (fun _ h => h) k3⟩
variable {i ps : Nat} {n : ByteArray} {l : List Wr} (hi : ss[i]? = some (ps, n, l))
include hi
theorem hk_apply (hl : l = liesAt D n) (X : Option Addr) (m c : Nat) (ws : List Wr) (hX : WrIn W X ws) (hf : ∀ a, X = some a → Y a.block ∨ a.block < w0.heap.size) (hm : m = ws.length) (hm1 : m ≤ 100) (hmay : ws.all mayW = true) (hr : costW ws ≤ D.room) : Calls Tryz.prog 11 #[.pointer (some ⟨ps, 0, none⟩), .slice X m c] W (fun e w' => e = .returned (.int .i64 0) ∧ LeftK w0 W Y ((b, applyK D n ws, ss.set i (ps, n, doW l ws)) :: S) w') := by
  obtain ⟨O, h1, h2, h3, h4⟩ := h
  exact (kapply h1 (fun k hk => (h2 k hk).2) hi hl X m c ws hX (fun a ha ho => by
    rcases hf a ha with hy | hy
    · exact h3 _ ho hy
    · have := (h2 _ ho).1
      omega) hm hm1 hmay hr).mono fun e w' ⟨k1, k2, k3⟩ => ⟨k1, HasK.told h2 h3 h4 k2 (fun _ h => h) k3⟩
theorem hk_apply_bad (hl : l = liesAt D n) (X : Option Addr) (m c : Nat) (ws : List Wr) (hX : WrIn W X ws) (hf : ∀ a, X = some a → Y a.block ∨ a.block < w0.heap.size) (hm : m = ws.length) (hm1 : m ≤ 100) (hr : costW ws ≤ D.room) (hmay : ws.all mayW = false) : Calls Tryz.prog 11 #[.pointer (some ⟨ps, 0, none⟩), .slice X m c] W (fun e w' => e = .returned (.int .i64 1) ∧ LeftK w0 W Y ((b, D, ss) :: S) w') := by
  obtain ⟨O, h1, h2, h3, h4⟩ := h
  exact (kapply_bad h1 (fun k hk => (h2 k hk).2) hi hl X m c ws hX (fun a ha ho => by
    rcases hf a ha with hy | hy
    · exact h3 _ ho hy
    · have := (h2 _ ho).1
      omega) hm hm1 hr hmay).mono fun e w' ⟨k1, k2, k3⟩ => ⟨k1, HasK.told h2 h3 h4 k2 (fun _ h => h) k3⟩
theorem hk_compact (hl : l = liesAt D n) (hr : costW l ≤ D.room) : Calls Tryz.prog 13 #[.pointer (some ⟨ps, 0, none⟩)] W (fun e w' => e = .returned (.int .i64 0) ∧ LeftK w0 W Y ((b, compactK D n, ss) :: S) w') := by
  obtain ⟨O, h1, h2, h3, h4⟩ := h
  exact (kcompact h1 (fun k hk => (h2 k hk).2) hi hl hr).mono fun e w' ⟨k1, k2, k3⟩ => ⟨k1, HasK.told h2 h3 h4 k2 (fun _ h => h) k3⟩
omit h hi in
theorem HasK.few (h : HasK w0 W Y ((b, D, ss) :: S)) (hi : ss[i]? = some (ps, n, l)) : ∀ x ∈ l, x.key.size ≤ 1000 := by
  obtain ⟨O, h1, -⟩ := h
  exact h1.few hi
theorem hk_get (k : ByteArray) (hk : k.size ≤ 1000) : Calls Tryz.prog 17 #[.pointer (some ⟨ps, 0, none⟩), .string k] W (fun e w' => e = .returned (.tuple #[.string (getW l k).1, .bool (getW l k).2]) ∧ LeftK w0 W Y ((b, D, ss) :: S) w') := by
  obtain ⟨O, h1, h2, h3, h4⟩ := h
  exact (kget h1 hi k hk).mono fun e w' ⟨k1, k2, k3⟩ => ⟨k1, HasK.told h2 h3 h4 k2 (fun _ h => h) k3⟩
theorem hk_len : Calls Tryz.prog 30 #[.pointer (some ⟨ps, 0, none⟩)] W (fun e w' => e = .returned (.int .i64 (l.length : Int)) ∧ LeftK w0 W Y ((b, D, ss) :: S) w') := by
  obtain ⟨O, h1, h2, h3, h4⟩ := h
  exact (klen h1 hi).mono fun e w' ⟨k1, k2, k3⟩ => ⟨k1, HasK.told h2 h3 h4 k2 (fun _ h => h) k3⟩
/-- The keys told are the law's. -/
theorem hk_keys (p : ByteArray) : Calls Tryz.prog 18 #[.pointer (some ⟨ps, 0, none⟩), .string p] W (fun e w' => ∃ X c, e = .returned (.slice X (keysW l p).length c) ∧ w'.ownsRow W.heap.size 9 1 (.slice X (keysW l p).length c) (keysW l p).length ((keysW l p).map Value.string) ∧ LeftK w0 W Y ((b, D, ss) :: S) w' ∧ HasK w0 w' (fun k => Y k ∨ ∃ a, X = some a ∧ k = a.block) ((b, D, ss) :: S)) := by
  obtain ⟨O, h1, h2, h3, h4⟩ := h
  refine (kkeys h1 (fun k hk => (h2 k hk).2) hi p).mono fun e w' ⟨X, c, k1, k2, k3, k4⟩ => ⟨X, c, k1, k2, HasK.told h2 h3 h4 k3 (fun _ h => h.1) k4, ?_⟩
  have hs := h4.below.size
  have hz := k4.size
  have hX : ∀ k a, X = some a → k = a.block → W.heap.size ≤ k ∧ k < w'.heap.size := fun k a ha hk => by
    subst ha hk
    obtain ⟨S', c', hv, -, -, hq⟩ := own_slice k2
    cases hv
    obtain ⟨g, rfl, hg1, hg2, -⟩ := hq _ rfl
    exact ⟨hg1, hg2⟩
  refine ⟨_, k3, fun k hn => ?_, fun k hn hY => ?_, h4.moved k4 (fun k ho => (h2 k ho).1) (fun k ho => .inr ho) (fun k hq => ?_)⟩
  · rcases hn.1 with hn | hn
    · exact ⟨(h2 k hn).1, Nat.lt_of_lt_of_le (h2 k hn).2 hz⟩
    · exact ⟨by omega, hn.2⟩
  · rcases hY with hY | ⟨a, rfl, rfl⟩
    · rcases hn.1 with hn | hn
      · exact h3 k hn hY
      · have := h4.lt k (.inl hY)
        have := hn.1
        omega
    · exact hn.2 (by
        obtain ⟨S', c', hv, -, -, hq⟩ := own_slice k2
        cases hv
        obtain ⟨g, rfl, -⟩ := hq _ rfl
        rfl)
  · rcases hq with (hq | ⟨a, ha, hk⟩) | hq
    · exact .inl (.inl hq)
    · exact .inr (hX k a ha hk)
    · rcases hq.1 with hn | hn
      · exact .inl (.inr hn)
      · exact .inr hn
end
end Go.Proofs.YtmblbogpkdkncaaGreat
namespace Go.Proofs.YtmblbogpkdkncaaGreat
open Go.RowKit

theorem cell_kept {W W' : World} {p : Addr} (h : W'.heap[p.block]? = W.heap[p.block]?) : W'.cell? p = W.cell? p := by
  unfold World.cell?
  rw [h]
theorem lt_kept {W W' : World} {g : Nat} (h : W'.heap[g]? = W.heap[g]?) (hl : g < W.heap.size) : g < W'.heap.size := by
  rw [Array.getElem?_eq_getElem hl] at h
  exact (Array.getElem?_eq_some_iff.1 h).1
theorem WrIn.kept {W W' : World} {X : Option Addr} {ts : List Wr} (h : WrIn W X ts) (hk : ∀ a, X = some a → W'.heap[a.block]? = W.heap[a.block]?) : WrIn W' X ts := fun i t ht => by
  obtain ⟨ad, rfl, h2, h3, h4, h5⟩ := h i t ht
  have hb := hk _ rfl
  have e : ∀ k, W'.heap[(ad.add k).block]? = W.heap[(ad.add k).block]? := fun k => by rw [addr_add_block]; exact hb
  exact ⟨ad, rfl, lt_kept hb h2, (cell_kept (e _)).trans h3, (cell_kept (by rw [addr_add_block]; exact e _)).trans h4, (cell_kept (by rw [addr_add_block]; exact e _)).trans h5⟩
theorem StrsIn.kept {W W' : World} {X : Option Addr} {ts : List ByteArray} (h : StrsIn W X ts) (hk : ∀ a, X = some a → W'.heap[a.block]? = W.heap[a.block]?) : StrsIn W' X ts := fun i t ht => by
  obtain ⟨ad, rfl, h2, h3⟩ := h i t ht
  have hb := hk _ rfl
  exact ⟨ad, rfl, lt_kept hb h2, (cell_kept (by rw [addr_add_block]; exact hb)).trans h3⟩
/-- A row that lies beside the sites. -/
def Beside (w0 : World) (Y : Nat → Prop) (X : Option Addr) : Prop := ∀ a, X = some a → Y a.block ∨ a.block < w0.heap.size
theorem LeftK.kept {w0 W w' : World} {Y : Nat → Prop} {S : List Site} (h : LeftK w0 W Y S w') (hW : Below w0.heap.size w0 W) {X : Option Addr} (hX : Beside w0 Y X) : ∀ a, X = some a → w'.heap[a.block]? = W.heap[a.block]? := fun a ha => by
  rcases hX a ha with hy | hy
  · exact h.2 _ hy
  · exact (h.1.below.block _ hy).trans (hW.block _ hy).symm
/-- Texts in a row of one's own. -/
theorem own_strs14 {W : World} {B n c : Nat} {S : Option Addr} {ps : List ByteArray} (h : W.ownsRow B 9 1 (.slice S n c) n (ps.map Value.string)) : StrsIn W S ps ∧ n = ps.length ∧ n ≤ c := by
  obtain ⟨S', c', hv, hc, h2, h3⟩ := own_slice h
  cases hv
  have hl : ps.length = n := by have := h.1; simpa using this
  refine ⟨fun i s hs => ?_, hl.symm, hc⟩
  cases S with
  | none =>
    have := (h2 rfl).1
    rw [List.getElem?_eq_none (by omega)] at hs
    cases hs
  | some a =>
    obtain ⟨g, rfl, _, hg, hc⟩ := h3 a rfl
    exact ⟨_, rfl, hg, hc i _ (by rw [List.getElem?_map, hs]; rfl)⟩
set_option maxRecDepth 100000 in
set_option maxHeartbeats 4000000 in
theorem like14_any {w0 W : World} {Y : Nat → Prop} {b : Nat} {D : Kd} {ss : List Sk} {S : List Site} (h : HasK w0 W Y ((b, D, ss) :: S)) {i0 ps : Nat} {nm : ByteArray} {l : List Wr} (hi : ss[i0]? = some (ps, nm, l)) (X : Option Addr) (m c : Nat) (hm : m = l.length) (hX : WrIn W X l) (hb : Beside w0 Y X) (hl : RiseW l) (hl5 : l.length ≤ 50000) :
    Calls Tryz.prog 14 #[.pointer (some ⟨ps, 0, none⟩), .slice X m c] W (fun e w' => e = .returned (.bool true) ∧ LeftK w0 W Y ((b, D, ss) :: S) w') := by
  have HK := Lib.hid (hk_keys h hi ⟨#[]⟩)
  have HI := Lib.hid hi
  have HX := Lib.hid (And.intro hm (And.intro hX (And.intro hb hl)))
  have hm5 : m ≤ 50000 := by omega
  have HB := Lib.hid h.below
  rw [keysW_all, List.length_map, ← hm] at HK
  have HL := Lib.hid (fun W' (h' : HasK w0 W' (fun k => Y k) ((b, D, ss) :: S)) => hk_len h' hi)
  clear h hi hm hX hb hl hl5
  go_enter Tryz.func14, Tryz.ntmps14
  go_upto_region 2 with (go_at_call 18; refine HK.out.mono ?_; rintro e w1 ⟨KX, kc, rfl, ho, hl1, hh1⟩; have H1 := Lib.hid (And.intro ho (And.intro hl1 hh1)); clear ho hl1 hh1)
  obtain ⟨Yk, hYk⟩ : ∃ Yk : Nat → Prop, Yk = fun k => Y k ∨ ∃ a, KX = some a ∧ k = a.block := ⟨_, rfl⟩
  have HYk := Lib.hid hYk
  have hBk : Beside w0 Yk X := fun a ha => by
    rw [hYk]
    rcases HX.out.2.2.1 a ha with h | h
    · exact .inl (.inl h)
    · exact .inr h
  have hBq : Beside w0 Yk KX := fun a ha => by
    rw [hYk]
    exact .inl (.inr ⟨a, ha, rfl⟩)
  have HBk := Lib.hid (And.intro hBk hBq)
  have hH1 : HasK w0 w1 Yk ((b, D, ss) :: S) := by rw [hYk]; exact H1.out.2.2
  have hF1 : WrIn w1 X l := HX.out.2.1.kept (H1.out.2.1.kept HB.out HX.out.2.2.1)
  have e1 : (l.map Wr.key).map Value.string = (l.map Wr.key).map Value.string := rfl
  have hS1 : StrsIn w1 KX (l.map Wr.key) := (own_strs14 (H1.out.1)).1
  have HLn := hk_len hH1 HI.out
  rw [← HX.out.1] at HLn
  have HLn := Lib.hid HLn
  have HF1 := Lib.hid (And.intro hF1 (And.intro hS1 (And.intro hH1.below H1.out.2.1.2)))
  clear hYk hBk hBq hF1 hS1 hH1 e1 HL HK
  go_upto_block 0 with (go_at_call 30; refine HLn.out.mono ?_; rintro e w2 ⟨rfl, hl2⟩; have H2 := Lib.hid hl2; clear hl2)
  go_wp2_with fail
  go_loopg [6, 7, 8] m (fun g i _ _ wr => ∃ k, k ≤ m ∧ g = m - k ∧ i = .int .i64 (k : Int) ∧ Hid (HasK w0 wr Yk ((b, D, ss) :: S) ∧ WrIn wr X l ∧ StrsIn wr KX (l.map Wr.key) ∧ ∀ k, Y k → wr.heap[k]? = W.heap[k]?))
  case atStart => exact ⟨0, by omega, rfl, rfl, Lib.hid ⟨H2.out.1, HF1.out.1.kept (H2.out.kept HF1.out.2.2.1 HBk.out.1), HF1.out.2.1.kept (H2.out.kept HF1.out.2.2.1 HBk.out.2), fun k hk => (H2.out.2 k (by rw [HYk.out]; exact .inl hk)).trans (HF1.out.2.2.2 k hk)⟩⟩
  case round =>
    obtain ⟨k, hk, rfl, rfl, hH⟩ := hrel
    by_cases hlt : k < m
    · have hki : (k : Int) < (m : Int) := by omega
      obtain ⟨x, hxk⟩ : ∃ x, l[k]? = some x := ⟨l[k]'(by have := HX.out.1; omega), List.getElem?_eq_getElem _⟩
      obtain ⟨ad, rfl, hab, h3⟩ := hH.out.2.1 k x hxk
      obtain ⟨x0, -, -⟩ := h3.load (by rw [addr_add_block]; exact hab) (Below.refl wr.heap.size wr)
      have hG := hk_get hH.out.1 HI.out x.key (hH.out.1.few HI.out x (List.mem_of_getElem? hxk))
      rw [getW_at HX.out.2.2.2 hxk] at hG
      have HG := Lib.hid hG
      have HXk := Lib.hid hxk
      clear hG hxk hab h3
      go_upto_region 8 with (go_at_call 17; refine HG.out.mono ?_; rintro e w3 ⟨rfl, hl3⟩; have H3 := Lib.hid hl3; clear hl3)
      have hW3 : WrIn w3 (some ad) l := hH.out.2.1.kept (H3.out.kept hH.out.1.below HBk.out.1)
      have hS3 : StrsIn w3 KX (l.map Wr.key) := hH.out.2.2.1.kept (H3.out.kept hH.out.1.below HBk.out.2)
      have HE := Lib.hid (And.intro H3.out.1 (And.intro hW3 (And.intro hS3 (fun k (hk : Y k) => (H3.out.2 k (by rw [HYk.out]; exact .inl hk)).trans (hH.out.2.2.2 k hk)))))
      obtain ⟨ad', he, hab, h3⟩ := hW3 k x HXk.out
      cases he
      clear x0
      obtain ⟨x0, x1, -⟩ := h3.load (by rw [addr_add_block]; exact hab) (Below.refl w3.heap.size w3)
      obtain ⟨kd, rfl, -, y0⟩ := hS3 k x.key (by rw [List.getElem?_map, HXk.out]; rfl)
      clear hab h3 hW3 hS3 hH HG
      go_quiet (fail)
      go_wp2_with fail
      go_roundg (m - (k + 1))
      case measure => omega
      case rel => exact ⟨k + 1, by omega, rfl, by go_num, Lib.hid ⟨HE.out.1.on (below_drewN (Below.refl _ _) _), HE.out.2.1.on (below_drewN (Below.refl _ _) _), HE.out.2.2.1.on (below_drewN (Below.refl _ _) _), HE.out.2.2.2⟩⟩
    · have hki : ¬ (k : Int) < (m : Int) := by omega
      go_wp2_with fail
      go_ret
      exact ⟨by first | rfl | simp, hH.out.1.less fun k hk => by rw [HYk.out]; exact .inl hk, hH.out.2.2.2⟩
end Go.Proofs.YtmblbogpkdkncaaGreat
namespace Go.Proofs.YtmblbogpkdkncaaGreat
open Go.RowKit

def aN : ByteArray := ⟨#[97]⟩
theorem aN_ok : nameK aN := by decide +kernel
def exW : List Wr := [⟨⟨#[97]⟩, ⟨#[49]⟩, false⟩, ⟨⟨#[98]⟩, ⟨#[50]⟩, false⟩, ⟨⟨#[97]⟩, ⟨#[]⟩, true⟩]
theorem exW_do : doW [] exW = [⟨⟨#[98]⟩, ⟨#[50]⟩, false⟩] := by
  have h1 : ltB (⟨#[97]⟩ : ByteArray) ⟨#[98]⟩ = true := by rw [ltB_lt]; decide +kernel
  have h2 : ltB (⟨#[97]⟩ : ByteArray) ⟨#[97]⟩ = false := by rw [ltB_lt]; decide +kernel
  have h3 : ltB (⟨#[98]⟩ : ByteArray) ⟨#[97]⟩ = false := by rw [ltB_lt]; decide +kernel
  have e : ¬ (⟨#[97]⟩ : ByteArray) = ⟨#[98]⟩ := by decide +kernel
  have e2 : ¬ (⟨#[98]⟩ : ByteArray) = ⟨#[97]⟩ := by decide +kernel
  simp [doW, exW, oneW, roundsW, stepW, h1, h2, h3, e, e2]
theorem exW_may : exW.all mayW = true := by decide +kernel
/-- Three writes in a block. -/
theorem row3 (W : World) (x y z : Wr) : let W1 := W.alloc (.cells #[.string x.key, .string x.val, .bool x.gone, .string y.key, .string y.val, .bool y.gone, .string z.key, .string z.val, .bool z.gone] 40)
    WrIn W1 (some ⟨W.heap.size, 0, none⟩) [x, y, z] := by
  have hb := heap_alloc_new W (.cells #[.string x.key, .string x.val, .bool x.gone, .string y.key, .string y.val, .bool y.gone, .string z.key, .string z.val, .bool z.gone] 40)
  have hc := fun i => cell_of_row _ _ i _ _ (0, 0) hb
  intro W1 i t ht
  have hl : W.heap.size < W1.heap.size := by show W.heap.size < (W.heap.push _).size; simp
  have e : ∀ k, (⟨W.heap.size, 0, none⟩ : Addr).add k = ⟨W.heap.size, k, none⟩ := fun k => by rw [Addr.add_lit, Nat.zero_add]
  refine ⟨_, rfl, hl, ?_⟩
  unfold Three
  rw [addr_add_add, addr_add_add, e, e, e]
  match i, ht with
  | 0, ht => cases ht; exact ⟨hc 0, hc 1, hc 2⟩
  | 1, ht => cases ht; exact ⟨hc 3, hc 4, hc 5⟩
  | 2, ht => cases ht; exact ⟨hc 6, hc 7, hc 8⟩
/-- The sites of a new drive with a store of the name a. -/
theorem open_new (q : Nat) (n : ByteArray) : openK ⟨[], q, some 0⟩ n = ⟨[(n, [])], q, none⟩ := rfl
theorem liesAt_one (n : ByteArray) (l : List Wr) (q : Nat) (u : Option Int) : liesAt ⟨[(n, l)], q, u⟩ n = l := by simp [liesAt]
theorem apply_one (n : ByteArray) (l b : List Wr) (q : Nat) (u : Option Int) : applyK ⟨[(n, l)], q, u⟩ n b = ⟨[(n, doW l b)], q - costW b, none⟩ := by simp [applyK, putK, liesAt]
theorem no_sites (w : World) : HasK w w (fun _ => False) [] := ⟨Below.refl _ _, fun _ h => h.elim⟩
set_option maxRecDepth 100000 in
set_option maxHeartbeats 4000000 in
theorem lives14 (w : World) : Calls Tryz.prog 16 #[] w (fun e w' => e = .returned (.bool true) ∧ Below w.heap.size w w') := by
  have HN := Lib.hid (hk_new (no_sites w) 1000 (by decide) (by decide))
  go_enter Tryz.func16, Tryz.ntmps16
  go_upto_region 2 with (first
    | (go_at_call 7; refine HN.out.mono ?_; rintro e w1 ⟨b, rfl, h1⟩; have H1 := Lib.hid (hk_open h1.1 aN aN_ok); clear h1)
    | (go_at_call 8; refine H1.out.mono ?_; rintro e w2 ⟨ps, rfl, h2⟩; have H2 := Lib.hid h2; clear h2))
  clear H1 HN
  have hH := H2.out.1
  rw [open_new] at hH
  have hLi := liesAt_one aN [] (Int.toNat 1000) (some 0)
  obtain ⟨W3, hW3⟩ : ∃ W3, W3 = w2.alloc (.cells #[.string ⟨#[97]⟩, .string ⟨#[49]⟩, .bool false, .string ⟨#[98]⟩, .string ⟨#[50]⟩, .bool false, .string ⟨#[97]⟩, .string ⟨#[]⟩, .bool true] 40) := ⟨_, rfl⟩
  have hR : WrIn W3 (some ⟨w2.heap.size, 0, none⟩) exW := by rw [hW3]; exact row3 w2 _ _ _
  have hB3 : Below w2.heap.size w2 W3 := by rw [hW3]; exact (Below.refl _ _).alloc (Nat.le_refl _) _
  have hz : w2.heap.size < W3.heap.size := by rw [hW3]; simp
  have hA := hk_apply (hH.new hB3) (i := 0) rfl (by simp [liesAt]) (some ⟨w2.heap.size, 0, none⟩) 3 3 exW hR (fun a ha => by cases ha; exact .inl (.inr ⟨Nat.le_refl _, hz⟩)) rfl (by decide) exW_may (by decide +kernel)
  have e1 : liesAt ⟨[], Int.toNat 1000, some 0⟩ aN = [] := rfl
  rw [e1, exW_do] at hA
  simp only [List.nil_append, List.set_cons_zero] at hA
  subst hW3
  have HA := Lib.hid hA
  have HB2 := Lib.hid H2.out.1.below
  clear hA hH hLi hR hB3 hz e1 H2
  go_upto_region 5 with (go_at_call 11; refine HA.out.mono ?_; rintro e w4 ⟨rfl, h4⟩; have H4 := Lib.hid (h4.1.less (Y' := fun _ => False) fun _ h => h.elim); clear h4)
  clear HA HB2
  have HK := Lib.hid (hk_keys H4.out (i := 0) rfl ⟨#[]⟩)
  rw [keysW_all] at HK
  go_upto_region 6 with (go_at_call 18; refine HK.out.mono ?_; rintro e w5 ⟨KX, kc, rfl, ho, -, hh1⟩; have H5 := Lib.hid hh1; have HO := Lib.hid ho; clear ho hh1)
  have hS : StrsIn w5 KX [⟨#[98]⟩] := (own_strs14 HO.out).1
  obtain ⟨kd, rfl, -, y0⟩ := hS 0 ⟨#[98]⟩ rfl
  have y0 : w5.cell? kd = some (.string ⟨#[98]⟩) := y0
  have HL := Lib.hid (hk_len H5.out (i := 0) rfl)
  clear hS HO HK
  try rw [show (List.map Wr.key [(⟨⟨#[98]⟩, ⟨#[50]⟩, false⟩ : Wr)]).length = 1 from rfl]
  go_wp2_with (go_at_call 30; refine HL.out.mono ?_; rintro e w6 ⟨rfl, h6⟩; have H6 := Lib.hid h6.1.below; clear h6)
  go_ret
  exact ⟨by first | rfl | simp, H6.out⟩
end Go.Proofs.YtmblbogpkdkncaaGreat
