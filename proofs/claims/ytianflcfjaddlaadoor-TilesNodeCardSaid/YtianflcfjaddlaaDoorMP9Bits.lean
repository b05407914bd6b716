/- The program's Node, where it refuses. Contracts of the program's LeafHash and NodeHash. slices.Backward over texts: its iterator's contract; boxes. The library's TrailingZeros where its table stands, and how many ones stand at a number's end: which peaks are joined. -/
import Derived.Test.YtianflcfjaddlaaDoorMP12Width
import Derived.Test.YtianflcfjaddlaaDoorMT9RRoot
import Derived.Test.YtianflcfjaddlaaDoorMRangeLaw
import Derived.Shelf.RegionOpen
import Derived.OwnWalkIn
import Derived.TacticsInMore
import Derived.LoopNIn
import Derived.LoopIn
import Derived.Sort.CutIn
import Derived.Test.YtianflcfjaddlaaDoorMT9M
import Derived.Shelf.Spec.TrailingZeros
namespace Go.Proofs.YtianflcfjaddlaaDoor
open Go.RowKit

theorem rowD_piece {ds : List Int} {f m : Nat} (h : f + m ≤ ds.length / 32) : rowD ((ds.drop (32 * f)).take (32 * m)) = ((rowD ds).drop f).take m := by
  have hl : ((ds.drop (32 * f)).take (32 * m)).length / 32 = m := by rw [List.length_take, List.length_drop]; omega
  apply List.ext_getElem?
  intro i
  by_cases hi : i < m
  · rw [List.getElem?_take_of_lt hi, List.getElem?_drop]
    unfold rowD
    rw [List.getElem?_map, List.getElem?_map, List.getElem?_range (by rw [hl]; exact hi), List.getElem?_range (by omega)]
    simp only [Option.map_some]
    congr 2
    rw [List.drop_take, List.take_take, List.drop_drop, Nat.min_eq_left (by omega), ← Nat.mul_add]
  · rw [List.getElem?_eq_none (by rw [rowD_len, hl]; omega), List.getElem?_eq_none (by rw [List.length_take]; omega)]

set_option maxHeartbeats 2000000 in
set_option maxRecDepth 100000 in
theorem node_range (X : Option Addr) (c n : Nat) (f m : Int) (w : World) (hf : I63 f) (hm : I63 m) (h : ¬ okH f m) :
    Calls Tryd.prog 5 #[.slice X n c, .int .i64 f, .int .i64 m] w (fun e w' => e = .returned (.tuple #[.string ⟨#[]⟩, .int .i64 6]) ∧ w = w') := by
  obtain ⟨hf1, hf2⟩ := hf
  obtain ⟨hm1, hm2⟩ := hm
  by_cases q1 : 1 ≤ m ∧ m ≤ 256
  · have Q1 := Lib.hid (decide_eq_true q1)
    obtain ⟨M, rfl⟩ : ∃ M : Nat, m = (M : Int) := ⟨m.toNat, by omega⟩
    have hM1 : 1 ≤ M := by omega
    have hM2 : M ≤ 256 := by omega
    have HO := Lib.hid (fun W => ones_any M hM2 W)
    by_cases q2 : powH (M : Int)
    · by_cases q3 : f < 0
      · clear h q1
        have Q2 := Lib.hid q2
        clear q2
        go_enter Tryd.func5, Tryd.ntmps5
        go_wp2_with (first | (go_at_call 13; refine (within_p _ _ _ _).mono ?_; rintro e w1 ⟨rfl, rfl⟩; rw [Q1.out]) | (go_at_call 14; refine (HO.out _).mono ?_; rintro e w1 ⟨⟨k, rfl, hk⟩, rfl⟩; obtain rfl := hk.2 Q2.out; clear hk))
        go_ret2
        exact ⟨rfl, rfl⟩
      · have hr : (f % (M : Int) != 0) = true := by rw [bne_iff_ne]; exact fun e => h ⟨q2, by omega, e⟩
        clear h q1
        have Q2 := Lib.hid q2
        clear q2
        go_enter Tryd.func5, Tryd.ntmps5
        go_wp2_with (first | (go_at_call 13; refine (within_p _ _ _ _).mono ?_; rintro e w1 ⟨rfl, rfl⟩; rw [Q1.out]) | (go_at_call 14; refine (HO.out _).mono ?_; rintro e w1 ⟨⟨k, rfl, hk⟩, rfl⟩; obtain rfl := hk.2 Q2.out; clear hk))
        go_ret2
        exact ⟨rfl, rfl⟩
    · clear h q1
      have Q2 := Lib.hid q2
      clear q2
      go_enter Tryd.func5, Tryd.ntmps5
      go_wp2_with (first | (go_at_call 13; refine (within_p _ _ _ _).mono ?_; rintro e w1 ⟨rfl, rfl⟩; rw [Q1.out]) | (go_at_call 14; refine (HO.out _).mono ?_; rintro e w1 ⟨⟨k, rfl, hk⟩, rfl⟩; have hk1 : ¬ k = 1 := fun e => Q2.out (hk.1 e); clear hk))
      go_ret2
      exact ⟨rfl, rfl⟩
  · have Q1 := Lib.hid (decide_eq_false q1)
    clear h q1
    go_enter Tryd.func5, Tryd.ntmps5
    go_wp2_with (go_at_call 13; refine (within_p _ _ _ _).mono ?_; rintro e w1 ⟨rfl, rfl⟩; rw [Q1.out])
    go_ret2
    exact ⟨rfl, rfl⟩
end Go.Proofs.YtianflcfjaddlaaDoor
namespace Go.Proofs.YtianflcfjaddlaaDoor
open Go.RowKit

theorem tables_args {W W4 : World} (hT : Tables W) (hb : Below W.heap.size W W4) : 4 + 1 ≤ W4.heap.size ∧ (∀ i, i < 8 → W4.cell? ⟨3, i, none⟩ = some (.int .u64 (sqL.getD i 0))) ∧ ∀ i, i < 80 → W4.cell? ⟨4, i, none⟩ = some (.int .u64 (cuL.getD i 0)) := hT.below hb hT.1
theorem row_cell (W : World) (cs : Array Value) (t : TypeId) (i : Nat) : (W.alloc (.cells cs t)).cell? ((⟨W.heap.size, 0, none⟩ : Addr).add i) = cs[i]? := by
  rw [Addr.add_lit, Nat.zero_add]
  exact cell_of_row _ _ i _ _ (0, 0) (heap_alloc_new _ _)
/-- What one of the parts is. -/
def PartOf (W : World) (N : Nat) (v : Value) (p : List Int) : Prop := ∃ X c, v = .slice X p.length c ∧ p.length ≤ c ∧ (0 < p.length → ∃ a, X = some a ∧ a.block < N ∧ ∀ j e, p[j]? = some e → W.cell? (a.add j) = some (.int .u8 e))
theorem PartOf.on {W W' : World} {v : Value} {p : List Int} (h : PartOf W W.heap.size v p) (hb : Below W.heap.size W W') : PartOf W' W'.heap.size v p := by
  obtain ⟨X, c, h1, h2, h3⟩ := h
  refine ⟨X, c, h1, h2, fun hp => ?_⟩
  obtain ⟨a, ha, hlt, hc⟩ := h3 hp
  exact ⟨a, ha, Nat.lt_of_lt_of_le hlt hb.size, fun j e he => (hb.cell (by rw [addr_add_block]; exact hlt)).trans (hc j e he)⟩
theorem part_bytes {W : World} {X : Option Addr} {c n : Nat} {us : List Int} (h : InS W W.heap.size X us) (hc : us.length ≤ c) (hn : n = us.length) : PartOf W W.heap.size (.slice X n c) us := by
  subst hn
  exact ⟨X, c, rfl, hc, h⟩
theorem parts_laid {W : World} {vs : List Value} {ps : List (List Int)} (hl : vs.length = ps.length) (h : ∀ (i : Nat) (v : Value) (p : List Int), vs[i]? = some v → ps[i]? = some p → PartOf W W.heap.size v p) :
    PartsBy (W.alloc (.cells vs.toArray 22)) (W.alloc (.cells vs.toArray 22)).heap.size (some ⟨W.heap.size, 0, none⟩) ps := fun i p hp => by
  have hi : i < vs.length := by rw [hl]; exact (List.getElem?_eq_some_iff.1 hp).1
  have hv : vs[i]? = some vs[i] := List.getElem?_eq_getElem hi
  have hb : Below W.heap.size W (W.alloc (.cells vs.toArray 22)) := (Below.refl _ _).alloc (Nat.le_refl _) _
  obtain ⟨X, c, h1, h2, h3⟩ := (h i _ p hv hp).on hb
  refine ⟨⟨W.heap.size, 0, none⟩, X, c, rfl, by simp, ?_, h2, h3⟩
  rw [row_cell, List.getElem?_toArray, hv, h1]

set_option maxRecDepth 100000 in
set_option maxHeartbeats 1000000 in
theorem nodehash_any (a b : ByteArray) (w : World) (hT : Tables w) (hl : a.size + b.size ≤ 999) :
    Calls Tryd.prog 30 #[.string a, .string b] w (SaysS w (nodeB a b)) := by
  obtain ⟨W1, hW1⟩ : ∃ W1, W1 = w.alloc (.cells #[.int .u8 1] 5) := ⟨_, rfl⟩
  have a1 := Acc.built (Below.refl w.heap.size w) [1] (by decide) 1 rfl
  have s1 : W1.heap.size = w.heap.size + 1 := by rw [hW1]; simp
  have b1 : Below w.heap.size w W1 := by rw [hW1]; exact a1.2
  have p1 : PartOf W1 W1.heap.size (.slice (some ⟨w.heap.size, 0, none⟩) 1 1) [1] := by rw [hW1]; exact part_bytes (a1.ins rfl) (by decide) rfl
  obtain ⟨ca, W2, hr2, hb2, hs2, hca, hc2⟩ := bytes_back (txt a) (txt_bytes a) W1
  obtain ⟨cb, W3, hr3, hb3, hs3, hcb, hc3⟩ := bytes_back (txt b) (txt_bytes b) W2
  rw [str_txt] at hr2 hr3
  obtain ⟨na, hna⟩ : ∃ na, na = (txt a).length := ⟨_, rfl⟩
  obtain ⟨nb, hnb⟩ : ∃ nb, nb = (txt b).length := ⟨_, rfl⟩
  rw [← hna] at hr2 hca hc2
  rw [← hnb] at hr3 hcb hc3
  have getx : ∀ (us : List Int) (n : Nat) (W : World) (B : Nat), n = us.length → (∀ i, i < n → W.cell? ⟨B, i, none⟩ = some (.int .u8 (us.getD i 0))) → B < W.heap.size → InS W W.heap.size (some ⟨B, 0, none⟩) us := fun us n W B hn hc hB hp => ⟨_, rfl, hB, fun i e he => by
    have hi := (List.getElem?_eq_some_iff.1 he).1
    rw [Addr.add_lit, Nat.zero_add, hc i (by omega), List.getD_eq_getElem?_getD, he]
    rfl⟩
  have p2 : PartOf W2 W2.heap.size (.slice (some ⟨W1.heap.size, 0, none⟩) na ca) (txt a) := part_bytes (getx _ na W2 _ hna hc2 hs2) (by omega) hna
  have p3 : PartOf W3 W3.heap.size (.slice (some ⟨W2.heap.size, 0, none⟩) nb cb) (txt b) := part_bytes (getx _ nb W3 _ hnb hc3 hs3) (by omega) hnb
  have b3 : Below w.heap.size w W3 := (b1.trans (hb2.mono b1.size)).trans (hb3.mono (Nat.le_trans b1.size hb2.size))
  have hp := parts_laid (W := W3) (vs := [.slice (some ⟨w.heap.size, 0, none⟩) 1 1, .slice (some ⟨W1.heap.size, 0, none⟩) na ca, .slice (some ⟨W2.heap.size, 0, none⟩) nb cb]) (ps := [[1], txt a, txt b]) rfl (fun i v p hv hp => by
    match i, hv, hp with
    | 0, hv, hp => cases hv; cases hp; exact (p1.on hb2).on hb3
    | 1, hv, hp => cases hv; cases hp; exact p2.on hb3
    | 2, hv, hp => cases hv; cases hp; exact p3)
  have b4 : Below w.heap.size w (W3.alloc (.cells #[.slice (some ⟨w.heap.size, 0, none⟩) 1 1, .slice (some ⟨W1.heap.size, 0, none⟩) na ca, .slice (some ⟨W2.heap.size, 0, none⟩) nb cb] 22)) := b3.alloc b3.size _
  obtain ⟨t1, t2, t3⟩ := tables_args hT b4
  have hS := sum256_any (some ⟨W3.heap.size, 0, none⟩) 3 [[1], txt a, txt b] sqL cuL (W3.alloc (.cells #[.slice (some ⟨w.heap.size, 0, none⟩) 1 1, .slice (some ⟨W1.heap.size, 0, none⟩) na ca, .slice (some ⟨W2.heap.size, 0, none⟩) nb cb] 22)) hp (fun p hp e he => by
    simp only [List.mem_cons, List.not_mem_nil, or_false] at hp
    rcases hp with rfl | rfl | rfl
    · rw [List.mem_singleton.1 he]; decide
    · exact txt_bytes a e he
    · exact txt_bytes b e he) (by simp [txt_length]; omega) (by simp) t1 t2 t3
  have HS := Lib.hid (show Calls Tryd.prog 42 #[.slice (some ⟨W3.heap.size, 0, none⟩) 3 3] (W3.alloc (.cells #[.slice (some ⟨w.heap.size, 0, none⟩) 1 1, .slice (some ⟨W1.heap.size, 0, none⟩) na ca, .slice (some ⟨W2.heap.size, 0, none⟩) nb cb] 22)) fun e w' => ∃ g cap, e = .returned (.slice (some ⟨g, 0, none⟩) 32 cap) ∧ Below w.heap.size w w' ∧ Made w.heap.size w' g 32 (dig32 cuL sqL (1 :: (txt a ++ txt b))) by
    refine hS.mono fun e w' h => ?_
    obtain ⟨g, cap, he, -, hb, hm⟩ := h
    have ef : [[1], txt a, txt b].flatten = 1 :: (txt a ++ txt b) := by simp
    rw [ef] at hm
    exact ⟨g, cap, he, b4.trans (hb.mono b4.size), ⟨Nat.le_trans b4.size hm.1, hm.2⟩⟩)
  rw [hW1] at hr2
  clear hS hp p1 p2 p3 a1 b1 b3 b4 t1 t2 t3 hb2 hb3 hs2 hs3 hca hcb hc2 hc3 hna hnb getx hT hl
  rw [s1] at HS
  have e1 : (w.alloc (.cells #[.int .u8 1] 5)).heap.size = w.heap.size + 1 := by simp
  rw [e1] at hr2
  clear e1 s1 hW1
  clear W1
  go_enter Tryd.func30, Tryd.ntmps30
  go_wp2_with (first | (go_at_call 42; refine HS.out.mono ?_; rintro e w4 ⟨g4, cap4, rfl, hb4, hm4⟩; have C4 : (convert 22 9 (.slice (some ⟨g4, 0, none⟩) 32 cap4)).run Tryd.prog w4 = .ok (.string (strOfNums (dig32 cuL sqL (1 :: (txt a ++ txt b))))) w4 := conv_made hm4 cap4; have B4 := Lib.hid hb4; clear hm4 hb4))
  go_ret
  exact ⟨rfl, B4.out⟩
end Go.Proofs.YtianflcfjaddlaaDoor
namespace Go.Proofs.YtianflcfjaddlaaDoor
open Go.RowKit Go.Shelf
attribute [local go_sem] Oper.semAt_some

/-- A box holds v. -/
def Box (W : World) (b : Nat) (t : TypeId) (v : Value) : Prop := W.heap[b]? = some (.cells #[v] t (0, 0))
theorem Box.cell {W : World} {b : Nat} {t : TypeId} {v : Value} (h : Box W b t v) : W.cell? ⟨b, 0, none⟩ = some v := by rw [cell_of_row W _ 0 _ _ (0, 0) h]; rfl
theorem Box.frozen {W : World} {b : Nat} {t : TypeId} {v : Value} (h : Box W b t v) : W.frozen? ⟨b, 0, none⟩ = false := frozen_of_row W _ 0 _ _ h
theorem Box.lt {W : World} {b : Nat} {t : TypeId} {v : Value} (h : Box W b t v) : b < W.heap.size := (Array.getElem?_eq_some_iff.1 h).1
theorem Box.kept {W W' : World} {b : Nat} {t : TypeId} {v : Value} {row : Option Nat} (h : Box W b t v) (hg : W.grownBy W' row) (hr : row ≠ some b) : Box W' b t v := (hg.block b h.lt (fun e => hr e.symm)).trans h
theorem Box.below {W W' : World} {b : Nat} {t : TypeId} {v : Value} (h : Box W b t v) (hb : Below W.heap.size W W') : Box W' b t v := (hb.block b h.lt).trans h
theorem Box.set {W : World} {b : Nat} {t : TypeId} {v : Value} (h : Box W b t v) (u : Value) : Box (W.setCell ⟨b, 0, none⟩ u) b t u := heap_setCell_same W b 0 _ _ u h
theorem Box.other {W : World} {b b' : Nat} {t : TypeId} {v : Value} (h : Box W b t v) (hne : b ≠ b') (u : Value) : Box (W.setCell ⟨b', 0, none⟩ u) b t v := (heap_setCell_other _ _ b _ hne).trans h
theorem keepsOthers_below {W W' : World} (h : Below W.heap.size W W') : KeepsOthers W W' := ⟨h.size, fun k _ hk _ => (h.block k (Array.getElem?_eq_some_iff.1 hk).1).trans hk⟩

set_option maxHeartbeats 1000000 in
set_option maxRecDepth 100000 in
theorem back_iter (l D n cap : Nat) (X : Option Addr) (ps : List ByteArray) (hlen : n ≤ 100000) (hn : n = ps.length) (I : Nat → World → Prop)
    (hD : ∀ j W, I j W → W.cell? ⟨D, 0, none⟩ = some (.slice X n cap)) (hE : ∀ j W, I j W → StrsIn W X ps)
    (BB : World → Prop)
    (hY : ∀ j s W1, ps[j]? = some s → I (j + 1) W1 → BB W1 → YieldAt Fence.wide 5 Tryd.prog l #[.int .i64 (j : Int), .string s] W1 fun e W' => e = .returned (.bool true) ∧ I j W' ∧ BB W')
    (W : World) (h0 : I n W) (hB0 : BB W) :
    CallsIn Fence.wide 6 Tryd.prog 56 #[.func (.yield l) #[] #[], .pointer (some ⟨D, 0, none⟩)] W fun e W' => (∃ v, e = .returned v) ∧ I 0 W' ∧ BB W' := by
  refine callsIn_of_wp Tryd.func56 rfl trivial ?_ rfl
  simp only [Tryd.ntmps56, List.size_toArray, List.length_cons, List.length_nil, Nat.reduceAdd, Nat.reduceSub, Array.replicate_succ, Array.replicate_zero, List.push_toArray, List.append_toArray, List.nil_append, List.cons_append]
  have cD := hD _ _ h0
  have HH := Lib.hid (And.intro hD (And.intro hE (And.intro hY (And.intro h0 (And.intro hB0 hn)))))
  clear hD hE hY h0 hB0 hn
  gi_wp2_with (fail)
  clear cD
  gi_loopw [3] (fun i wr => ∃ k : Nat, k ≤ n ∧ i = .int .i64 ((k : Int) - 1) ∧ I k wr ∧ BB wr) (fun i _ => (intOf i + 1).toNat)
  case atStart => exact ⟨n, Nat.le_refl _, by go_num, HH.out.2.2.2.1, HH.out.2.2.2.2.1⟩
  case round =>
    obtain ⟨k, hk, rfl, hI, hB⟩ := hrel
    rcases Nat.eq_zero_or_pos k with rfl | hp
    · have HI := Lib.hid (And.intro hI hB)
      clear hI hB
      gi_wp2
      go_end0
      exact ⟨⟨_, rfl⟩, HI.out⟩
    · obtain ⟨j, rfl⟩ : ∃ j, k = j + 1 := ⟨k - 1, by omega⟩
      obtain ⟨hD, hE, hY, -, -, hn⟩ := HH.out
      have cD := hD _ _ hI
      obtain ⟨s, hs⟩ : ∃ s, ps[j]? = some s := ⟨ps[j]'(by omega), List.getElem?_eq_getElem _⟩
      obtain ⟨ad, rfl, -, hc⟩ := hE _ _ hI j s hs
      obtain ⟨fn, tmps, assign, body, hy, hR⟩ := hY j s wr hs hI hB
      have HR := Lib.hid hR
      have hj0 : (0 : Int) ≤ (j : Int) := by omega
      have hjn : (j : Int) < (n : Int) := by omega
      have ej : ((j + 1 : Nat) : Int) - 1 = (j : Int) := by omega
      rw [ej]
      clear hD hE hY hn hI hB hR hs ej
      gi_wp2
      refine HR.out.mono ?_
      rintro e W4 ⟨rfl, hI4, hB4⟩
      have H4 := Lib.hid (And.intro hI4 hB4)
      clear hI4 hB4 hy
      gi_wp2
      exact ⟨⟨j, by omega, by go_num, H4.out.1, H4.out.2⟩, by simp [intOf]⟩

set_option maxHeartbeats 400000 in
theorem back_any (X : Option Addr) (len cap : Nat) (w : World) :
    Calls Tryd.prog 45 #[.slice X len cap] w fun e w' =>
      e = .returned (.func (.func 56) #[] #[.pointer (some ⟨w.heap.size, 0, none⟩)]) ∧ w' = w.alloc (.cells #[.slice X len cap] 23) := by
  go_enter Tryd.func45, Tryd.ntmps45
  go_wp2
  go_ret
  exact ⟨rfl, rfl⟩
end Go.Proofs.YtianflcfjaddlaaDoor
namespace Go.Proofs.YtianflcfjaddlaaDoor
open Go.RowKit

/-- The library's table stands. -/
def Tab64 (w : World) : Prop := 1 < w.heap.size ∧ TabAt 1 Lib.deBruijn64tab w
theorem Tab64.below {w w' : World} (h : Tab64 w) {B : Nat} (hb : Below B w w') (hB : 1 < B) : Tab64 w' :=
  ⟨Nat.lt_of_lt_of_le h.1 hb.size, fun j hj => (hb.cell (p := ⟨1, j, none⟩) hB).trans (h.2 j hj)⟩

set_option maxHeartbeats 1000000 in
set_option maxRecDepth 100000 in
theorem tz_core (x k idx : Nat) (w : World) (hx0 : ((x : Int) == 0) = false)
    (key : IntKind.u64.wrap (bits BinOp.and IntKind.u64 (x : Int) (IntKind.u64.wrap (-(x : Int))) * 285870213051353865) / 288230376151711744 = (idx : Int))
    (hi : idx < 64) (hk : k < 64) (hcell : w.cell? ⟨1, idx, none⟩ = some (.int .u8 k)) :
    Calls Tryd.prog 44 #[.int .u64 x] w fun e w' => e = .returned (.int .i64 k) ∧ w = w' := by
  go_enter Tryd.func44, Tryd.ntmps44
  go_wp2_with (simp only [key])
  go_ret
  exact ⟨rfl, rfl⟩
set_option maxHeartbeats 1000000 in
theorem tz_any (x : Nat) (hx : x < 18446744073709551616) (hx0 : x ≠ 0) (w : World) (hT : Tab64 w) :
    Calls Tryd.prog 32 #[.int .u64 x] w fun e w' => e = .returned (.int .i64 (Lib.ctz 64 x)) ∧ w = w' := by
  obtain ⟨hlow, hk⟩ := Lib.lowest_bit 64 x hx0 hx
  obtain ⟨hi, htab⟩ := Lib.deBruijn64_at _ hk
  have hcell := hT.2 _ hi
  rw [htab] at hcell
  have HC := Lib.hid (tz_core x _ _ w (by simp; omega) (tz64_key x _ hx hx0 hlow) hi hk hcell)
  clear hcell htab hi hk hlow hT
  go_enter Tryd.func32, Tryd.ntmps32
  go_wp2_with (go_at_call 44; refine HC.out.mono ?_; rintro e w' ⟨rfl, rfl⟩)
  go_ret
  exact ⟨rfl, rfl⟩

/-- How many ones stand at a number's end. -/
def trail : Nat → Nat → Nat
  | 0, _ => 0
  | f + 1, n => if n % 2 = 1 then trail f (n / 2) + 1 else 0
theorem ctz_trail : ∀ n, n < 1024 → Lib.ctz 64 (18446744073709551615 - n) = trail n n := by decide +kernel
theorem trail_ones : ∀ f n, n ≤ f → trail f n ≤ ones f n
  | 0, _, _ => Nat.le_refl _
  | f + 1, n, h => by
    rw [trail, ones]
    by_cases ho : n % 2 = 1
    · rw [if_pos ho, if_neg (by omega)]
      have := trail_ones f (n / 2) (by omega)
      omega
    · rw [if_neg ho]
      exact Nat.zero_le _
section
variable {α : Type} (z : α) (join : α → α → α)
theorem carry_fold : ∀ (f n : Nat) (st : List α) (x : α), trail f n ≤ st.length → carry z join f n st x = st.take (st.length - trail f n) ++ [(st.drop (st.length - trail f n)).foldr join x]
  | 0, n, st, x, _ => by simp [carry, trail]
  | f + 1, n, st, x, h => by
    rw [carry]
    rw [trail] at h ⊢
    by_cases ho : n % 2 = 1
    · rw [if_pos ho] at h
      rw [if_pos ho, if_pos ho]
      rcases List.eq_nil_or_concat st with rfl | ⟨st', p, rfl⟩
      · simp at h
      · rw [List.concat_eq_append] at h ⊢
        simp only [List.length_append, List.length_singleton] at h
        have e1 : (st' ++ [p]).take ((st' ++ [p]).length - 1) = st' := by simp
        have e2 : (st' ++ [p]).getLastD z = p := by simp
        have e3 : (st' ++ [p]).length - (trail f (n / 2) + 1) = st'.length - trail f (n / 2) := by simp
        rw [e1, e2, e3, carry_fold f (n / 2) st' (join p x) (by omega), List.take_append_of_le_length (by omega), List.drop_append_of_le_length (by omega), List.foldr_append]
        rfl
    · rw [if_neg ho, if_neg ho]
      simp
/-- A range's peaks, when one more is taken in. -/
theorem peaks_add (l : List α) (x : α) : trail l.length l.length ≤ (peaksOf z join l).length ∧
    peaksOf z join (l ++ [x]) = (peaksOf z join l).take ((peaksOf z join l).length - trail l.length l.length) ++ [((peaksOf z join l).drop ((peaksOf z join l).length - trail l.length l.length)).foldr join x] := by
  have h := trail_ones l.length l.length (Nat.le_refl _)
  rw [← peaks_len z join l] at h
  refine ⟨h, ?_⟩
  rw [← carry_one, carry_fold z join _ _ _ _ h]
theorem foldP_fold : ∀ (ps : List α) (x : α), foldP z join (ps ++ [x]) = ps.foldr join x
  | [], _ => rfl
  | [p], x => rfl
  | p :: q :: r, x => by
    have h := foldP_fold (q :: r) x
    rw [List.cons_append] at h
    rw [List.cons_append, List.cons_append, foldP, h]
    rfl
/-- The tree's one, out of the peaks. -/
theorem tree_fold {l : List α} {ps : List α} {x : α} (h : peaksOf z join l = ps ++ [x]) : treeOf z join l = ps.foldr join x := by
  rw [← foldP_is, h, foldP_fold]
/-- All that is joined, from the right on, may be. -/
def okFold (ok : α → α → Prop) : List α → α → Prop
  | [], _ => True
  | p :: ps, x => okFold ok ps x ∧ ok p (ps.foldr join x)
end
end Go.Proofs.YtianflcfjaddlaaDoor
