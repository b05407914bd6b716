/- Ranges of hashes: two are joined by NodeHash. Contract of the program's Root. slices.Chunk over bytes: its iterator's contract. A range over a function whose iterator writes cells between two rounds, and whose rounds may write to what lay ahead of the statement: the law of the statement. -/
import Derived.Test.YtianflcfjaddlaaDoorMP9Bits
import Derived.Test.YtianflcfjaddlaaDoorMP9Held
import Derived.Test.YtianflcfjaddlaaDoorBase
import Derived.Test.YtianflcfjaddlaaDoorMRangeLaw
import Derived.Shelf.RegionOpen
import Derived.OwnWalkIn
import Derived.TacticsInMore
import Derived.LoopNIn
import Derived.LoopIn
import Derived.Sort.CutIn
import Derived.RangeFuncWrites
namespace Go.Proofs.YtianflcfjaddlaaDoor
open Go.RowKit

/-- All tables stand. -/
def TabsH (w : World) : Prop := Tab64 w ∧ Tables w
theorem TabsH.on {w w' : World} (h : TabsH w) (hb : Below w.heap.size w w') : TabsH w' := ⟨h.1.below hb h.1.1, h.2.below hb h.2.1⟩

set_option maxHeartbeats 1000000 in
set_option maxRecDepth 100000 in
theorem joined_hash (g : Nat) (a b : ByteArray) (w : World) (hT : Tables w) (hc : w.cell? ⟨g, 0, none⟩ = some (.func (.func 30) #[] #[])) (hs : a.size + b.size ≤ 999) :
    Calls Tryd.prog 46 #[.pointer (some ⟨g, 0, none⟩), .string a, .string b] w (fun e w' => e = .returned (.string (nodeB a b)) ∧ Below w.heap.size w w') := by
  have HJ := Lib.hid (nodehash_any a b w hT hs)
  clear hs hT
  go_enter_defers Tryd.func46, Tryd.ntmps46
  go_wp2_with (go_at_call 30; refine HJ.out.mono ?_; rintro e w1 ⟨rfl, hb1⟩; have HB := Lib.hid hb1; clear hb1)
  refine leaves_cons (f := 57) (args := #[]) (by simp) (by simp [go_sem]) ?_
  refine (idle_str _).mono ?_
  rintro e u' w'' ⟨rfl, rfl, rfl⟩
  simp [Leaves, settle, results, Tryd.results46, go_sem]
  exact HB.out
def hashJ : JSpec where
  F := 30
  jn := nodeB
  ok := fun a b => a.size + b.size ≤ 999
  T := TabsH
  tab := fun _ h => h.1
  low := fun _ _ h hb => h.on hb
  call := fun g a b W hT hok hc => joined_hash g a b W hT.2 hc hok

section
variable {α : Type} (z z' : α) (join : α → α → α)
/-- Of one thing at least the tree does not hang on what it is of none. -/
theorem tree_zero : ∀ (n : Nat) (l : List α), l.length ≤ n → 1 ≤ l.length → treeOf z join l = treeOf z' join l
  | n, l, h, h1 => by
    by_cases he : l.length = 1
    · obtain ⟨x, rfl⟩ := List.length_eq_one_iff.1 he
      rw [treeOf_one, treeOf_one]
    · have hh := half_is (n := l.length) (by omega)
      have hp := hh.pos
      have hlt := hh.2.1
      rw [treeOf_join z join hh, treeOf_join z' join hh, tree_zero (n - 1) (l.take (half l.length)) (by rw [List.length_take]; omega) (by rw [List.length_take]; omega), tree_zero (n - 1) (l.drop (half l.length)) (by rw [List.length_drop]; omega) (by rw [List.length_drop]; omega)]
  termination_by n => n
end
theorem hashJ_tree {l : List ByteArray} (h : l.length ≠ 0) : hashJ.tree l = rootB l := by
  show treeOf (⟨#[]⟩ : ByteArray) nodeB l = treeOf (digS []) nodeB l
  exact tree_zero _ _ nodeB l.length l (Nat.le_refl _) (by omega)
theorem nodeB_size (a b : ByteArray) : (nodeB a b).size = 32 := digS_size _
theorem fold_hash (ps : List ByteArray) (x : ByteArray) (hx : x.size ≤ 400) : (ps.foldr nodeB x).size ≤ 400 := by
  cases ps with
  | nil => exact hx
  | cons p ps => rw [List.foldr_cons, nodeB_size]; omega
theorem okFold_hash : ∀ (ps : List ByteArray) (x : ByteArray), (∀ p ∈ ps, p.size ≤ 400) → x.size ≤ 400 → okFold nodeB (fun a b => a.size + b.size ≤ 999) ps x
  | [], _, _, _ => trivial
  | p :: ps, x, h, hx => ⟨okFold_hash ps x (fun q hq => h q (List.mem_cons_of_mem _ hq)) hx, by
    have h1 := h p (List.mem_cons_self ..)
    have h2 := fold_hash ps x hx
    show p.size + (ps.foldr nodeB x).size ≤ 999
    omega⟩
theorem peaks_hash : ∀ (n : Nat) (l : List ByteArray), l.length ≤ n → (∀ s ∈ l, s.size ≤ 400) → ∀ p ∈ hashJ.peaks l, p.size ≤ 400
  | 0, l, h, hs => by
    have e : l = [] := List.length_eq_zero_iff.1 (by omega)
    subst e
    intro p hp
    cases hp
  | n + 1, l, h, hs => by
    by_cases h0 : l.length = 0
    · have e : l = [] := List.length_eq_zero_iff.1 h0
      subst e
      intro p hp
      cases hp
    · obtain ⟨k, hk⟩ := top_exists l.length (by omega)
      have hp := hk.pos
      have hle := hk.2.1
      intro p hpm
      unfold JSpec.peaks at hpm
      rw [peaksOf_cons _ _ hk] at hpm
      rcases List.mem_cons.1 hpm with rfl | hpm
      · have e := hashJ_tree (l := l.take k) (by rw [List.length_take]; omega)
        unfold JSpec.tree at e
        rw [e]
        exact rootB_size l.length _ (by rw [List.length_take]; omega) (fun s hs' => hs s (List.mem_of_mem_take hs'))
      · exact peaks_hash n (l.drop k) (by rw [List.length_drop]; omega) (fun s hs' => hs s (List.mem_of_mem_drop hs')) p hpm
theorem okAdd_hash {l : List ByteArray} {s : ByteArray} (hl : ∀ s ∈ l, s.size ≤ 400) (hs : s.size ≤ 400) : OkAdd hashJ l s :=
  okFold_hash _ _ (fun p hp => peaks_hash l.length l (Nat.le_refl _) hl p (List.mem_of_mem_drop hp)) hs
theorem okTop_hash {l : List ByteArray} (hl : ∀ s ∈ l, s.size ≤ 400) : OkTop hashJ l := fun ps x h =>
  okFold_hash _ _ (fun p hp => peaks_hash l.length l (Nat.le_refl _) hl p (by rw [h]; exact List.mem_append_left _ hp)) (peaks_hash l.length l (Nat.le_refl _) hl x (by rw [h]; simp))

/-- A range of hashes that the call holds, and a row of texts beside it. -/
def HeldH (w0 W : World) (r : Addr) (l : List ByteArray) (ov : Value) (os : List ByteArray) : Prop := HeldJ hashJ w0 W r l ov os
theorem hashes_any (w0 w : World) (hT : TabsH w0) (hb : Below w0.heap.size w0 w) : Calls Tryd.prog 15 #[] w (fun e w' => ∃ r, e = .returned (.pointer (some r)) ∧ HeldH w0 w' r [] (.slice none 0 0) []) := by
  have HN := Lib.hid (heldJ_new hashJ w0 w hT hb)
  clear hT hb
  go_enter Tryd.func15, Tryd.ntmps15
  go_wp2_with (go_at_call 29; refine HN.out.mono ?_; rintro e w1 ⟨r, rfl, h1⟩; have H1 := Lib.hid h1; clear h1)
  go_ret
  exact ⟨r, rfl, H1.out⟩
theorem heldH_add {w0 w : World} {r : Addr} {l os : List ByteArray} {ov : Value} (s : ByteArray) (h : HeldH w0 w r l ov os) (hl : l.length ≤ 1000) (hls : ∀ s ∈ l, s.size ≤ 400) (hs : s.size ≤ 400) : Calls Tryd.prog 17 #[.pointer (some r), .string s] w (fun e w' => e = .returned (.tuple #[]) ∧ HeldH w0 w' r (l ++ [s]) ov os) :=
  heldJ_add s h hl (okAdd_hash hls hs)
theorem heldH_top {w0 w : World} {r : Addr} {l os : List ByteArray} {ov : Value} (h : HeldH w0 w r l ov os) (hl : l.length ≤ 1001) (hls : ∀ s ∈ l, s.size ≤ 400) : Calls Tryd.prog 18 #[.pointer (some r)] w (fun e w' => (∃ t, e = .returned (.tuple #[.string t, .bool (decide (l.length ≠ 0))]) ∧ (l.length ≠ 0 → t = rootB l)) ∧ HeldH w0 w' r l ov os) :=
  (heldJ_top h hl (okTop_hash hls)).mono fun _ _ k => ⟨⟨_, k.1, fun h0 => hashJ_tree h0⟩, k.2⟩
end Go.Proofs.YtianflcfjaddlaaDoor
namespace Go.Proofs.YtianflcfjaddlaaDoor
open Go.RowKit

theorem sum_none (w : World) (hT : Tables w) : Calls Tryd.prog 42 #[.slice none 0 0] w fun e w' => ∃ g cap, e = .returned (.slice (some ⟨g, 0, none⟩) 32 cap) ∧ Below w.heap.size w w' ∧ Made w.heap.size w' g 32 (dig32 cuL sqL []) := by
  have h := sum256_any none 0 [] sqL cuL w (fun i p hp => by cases hp) (fun p hp => by cases hp) (by decide) (by decide) hT.1 hT.2.1 hT.2.2
  exact h.mono fun e w' k => by
    obtain ⟨g, cap, he, -, hb, hm⟩ := k
    exact ⟨g, cap, he, hb, hm⟩

end Go.Proofs.YtianflcfjaddlaaDoor
namespace Go.Proofs.YtianflcfjaddlaaDoor
open Go.RowKit Go.Shelf
attribute [local go_sem] Oper.semAt_some

theorem keepsOthers_drewC (W : World) (q : Nat) : KeepsOthers W (W.drewN q) := ⟨Nat.le_refl _, fun _ _ h _ => h⟩

set_option maxHeartbeats 1000000 in
set_option maxRecDepth 100000 in
theorem chunk_iter (l D E n len cap : Nat) (X : Option Addr) (hn : 1 ≤ n) (hn2 : n ≤ 1000) (hlen : len ≤ 100000) (hcap : len ≤ cap) (hX : 0 < len → ∃ ad, X = some ad) (I : Nat → World → Prop)
    (hD : ∀ j W, I j W → W.cell? ⟨D, 0, none⟩ = some (.slice X len cap)) (hE : ∀ j W, I j W → W.cell? ⟨E, 0, none⟩ = some (.int .i64 (n : Int))) (hdr : ∀ j W, I j W → I j W.drew)
    (BB : World → Prop) (hBB : ∀ A A', BB A → KeepsOthers A A' → BB A')
    (hY : ∀ ad j W1, X = some ad → j < len → I j W1 → BB W1 → YieldAt Fence.wide 5 Tryd.prog l #[.slice (some (ad.add j)) (min n (len - j)) (min n (len - j))] W1 fun e W' => e = .returned (.bool true) ∧ I (j + min n (len - j)) W' ∧ BB W')
    (W : World) (h0 : I 0 W) (hB0 : BB W) :
    CallsIn Fence.wide 6 Tryd.prog 31 #[.func (.yield l) #[] #[], .pointer (some ⟨D, 0, none⟩), .pointer (some ⟨E, 0, none⟩)] W fun e W' => (∃ v, e = .returned v) ∧ I len W' ∧ BB W' := by
  refine callsIn_of_wp Tryd.func31 rfl trivial ?_ rfl
  simp only [Tryd.ntmps31, List.size_toArray, List.length_cons, List.length_nil, Nat.reduceAdd, Nat.reduceSub, Array.replicate_succ, Array.replicate_zero, List.push_toArray, List.append_toArray, List.nil_append, List.cons_append]
  have HH := Lib.hid (And.intro hX (And.intro hD (And.intro hE (And.intro hdr (And.intro hBB (And.intro hY (And.intro h0 hB0)))))))
  clear hX hD hE hdr hBB hY h0 hB0
  gi_wp2_with (fail)
  gi_loopw [4] (fun i wr => ∃ k : Nat, k ≤ len + n ∧ i = .int .i64 (k : Int) ∧ I (min k len) wr ∧ BB wr) (fun i _ => len + n - (intOf i).toNat)
  case atStart =>
    obtain ⟨hX, hD, hE, hdr, hBB, hY, h0, hB0⟩ := HH.out
    exact ⟨0, by omega, rfl, by rw [Nat.zero_min]; exact h0, hB0⟩
  case round =>
    obtain ⟨j, hj, rfl, hI, hB⟩ := hrel
    have cD := HH.out.2.1 _ _ hI
    have cE := HH.out.2.2.1 _ _ hI
    by_cases hlt : j < len
    · obtain ⟨ad, rfl⟩ := HH.out.1 (by omega)
      obtain ⟨t, ht⟩ : ∃ t, t = min n (len - j) := ⟨_, rfl⟩
      have ht1 : 1 ≤ t := by omega
      have ht2 : t ≤ len - j := by omega
      rw [show min j len = j by omega] at hI
      have HT := Lib.hid ht
      have HI := Lib.hid (And.intro hI hB)
      clear hI hB ht
      gi_upto_region 3 with (fail)
      have hc : (j : Int) ≤ (cap : Int) := by omega
      have hmix : Tryd.prog.follows .mixedOrders = true := by kernel_rfl
      gi_cut [5] from 13 (fun v w' => v = .int .i64 (t : Int) ∧ w' = wr.drew)
      case first =>
        gi_region_with_o (fail)
        all_goals gi_wp2
        all_goals (gi_meet; case rel => exact ⟨by have := HT.out; congr 2; omega, rfl⟩)
      case rest =>
        obtain ⟨rfl, rfl⟩ := hcut
        obtain ⟨hI, hB⟩ := HI.out
        obtain ⟨fn, tmps, assign, body, hy, hR⟩ := HH.out.2.2.2.2.2.1 ad j wr.drew rfl hlt (HH.out.2.2.2.1 _ _ hI) (HH.out.2.2.2.2.1 _ _ hB (keepsOthers_drewC wr 1))
        rw [← HT.out] at hy hR
        have HR := Lib.hid hR
        clear hI hB hR hmix hc
        gi_wp2
        refine HR.out.mono ?_
        rintro e W4 ⟨rfl, hI4, hB4⟩
        have cE4 := HH.out.2.2.1 _ _ hI4
        have H4 := Lib.hid (And.intro hI4 hB4)
        clear hI4 hB4 hy cD cE
        gi_wp2
        obtain ⟨hI4, hB4⟩ := H4.out
        rw [show j + t = min (j + n) len by have := HT.out; omega] at hI4
        exact ⟨⟨j + n, by omega, by go_num, hI4, hB4⟩, by simp [intOf]; omega⟩
    · have HI := Lib.hid (And.intro hI hB)
      clear hI hB
      gi_wp2
      go_end0
      obtain ⟨hI, hB⟩ := HI.out
      rw [show min j len = len by omega] at hI
      exact ⟨⟨_, rfl⟩, hI, hB⟩

set_option maxHeartbeats 400000 in
theorem chunk_any (X : Option Addr) (len cap n : Nat) (hn : 1 ≤ n) (hn2 : n ≤ 1000) (w : World) :
    Calls Tryd.prog 16 #[.slice X len cap, .int .i64 (n : Int)] w fun e w' =>
      e = .returned (.func (.func 31) #[] #[.pointer (some ⟨w.heap.size, 0, none⟩), .pointer (some ⟨w.heap.size + 1, 0, none⟩)]) ∧ w' = (w.alloc (.cells #[.slice X len cap] 22)).alloc (.cells #[.int .i64 (n : Int)] 3) := by
  go_enter Tryd.func16, Tryd.ntmps16
  go_wp2
  go_ret
  exact ⟨rfl, rfl⟩
end Go.Proofs.YtianflcfjaddlaaDoor
namespace Go.Proofs.YtianflcfjaddlaaDoor
open Go.RowKit

variable {F : Fence} {n : Nat} {P : Program}

/-- How the body of a round is left: off its end. -/
def cellsPostB {β : Type} (B : Nat) (I' : β → World → Prop) (s : β) (W : World) : Exit → Act → World → Prop
  | .normal, _, W' => KeepsFrom B W W' ∧ I' s W'
  | _, _, _ => False

theorem wpIn_rangeFunc_cellsB {β : Type} {g : Operand} {ps : Array Tmp} {assign body : Code} {Q : Exit → Act → World → Prop} {a : Act} {w : World}
    (hro : F.round = none) (h1 : 1 ≤ n) {gf : Nat} {lb : Array Value} (hg : a.eval g = .func (.func gf) #[] lb) (hFg : F.fn gf) (eg : ∀ args w, (callFunc gf args).run P w = .ok (.enter gf args) w)
    {encs : β → Array Value} {I0 : World → Prop} {I I' : β → World → Prop} {Fin : World → Prop} (hseq : IterCells F (n - 1) P gf lb encs I0 I I' Fin)
    (hps : ∀ x, (encs x).size = ps.size) (hI0 : OwnFrom w.heap.size (fun (_ : Unit) => I0)) (hI : OwnFrom w.heap.size I) (hI' : OwnFrom w.heap.size I') (hFin : OwnFrom w.heap.size (fun (_ : Unit) => Fin)) (h0 : I0 w) (a₁ : β → Act)
    (hassign : ∀ (l : Nat) (x : β) (W : World) (K : Act → World → Prop), K (a₁ x) W →
      assign.wpIn (F.inRound l) (n - 1 - 1) P (Exit.then K (fun _ _ _ => False)) { tmps := (ps.zip (encs x)).foldl (fun t (p, v) => t.setIfInBounds p v) a.tmps, defers := [] } W)
    (hbody : ∀ (l : Nat) (s : β) (W : World), I s W → body.wpIn (F.inRound l) (n - 1 - 1) P (cellsPostB w.heap.size I' s W) (a₁ s) W)
    (hdone : ∀ (D : Nat) (W : World), w.heap.size ≤ D → Fin W → W.heap[D]? = some (.deferred (some [])) → Q .normal { a with defers := { target := .collected D, args := #[] } :: a.defers } W) :
    (Code.rangeFunc g ps assign body).wpIn F n P Q a w := by
  refine wpIn_rangeFunc ?_
  intro fn hfn
  rw [hro]
  obtain ⟨rec, hrec⟩ : ∃ rec : LoopState → Option Code → Loop, rec = fun st pe => { state := st, pending := pe, fn, tmps := a.tmps, params := ps, assign, body, defers := w.heap.size } := ⟨_, rfl⟩
  obtain ⟨W1, hW1⟩ : ∃ W1, (w.alloc (.deferred (some []))).alloc (.loop (rec .ready none)) = W1 := ⟨_, rfl⟩
  have hL1 : W1.heap[w.heap.size + 1]? = some (.loop (rec .ready none)) := by
    rw [← hW1]; have := World.alloc_heap_new (w.alloc (.deferred (some []))) (.loop (rec .ready none)); rwa [World.size_alloc] at this
  have hK1 : W1.heap[w.heap.size]? = some (.deferred (some [])) := by
    rw [← hW1]; exact (Below.heap_alloc _ _ _ (by simp)).trans (World.alloc_heap_new w _)
  have hI1 : I0 W1 := by rw [← hW1]; exact hI0.alloc (s := ()) _ (hI0.alloc (s := ()) _ h0)
  refine ⟨w.heap.size + 1, [{ target := .collected w.heap.size, args := #[] }], W1, { target := .fn (.func gf) lb, args := #[.func (.yield (w.heap.size + 1)) #[] #[]] }, W1, gf,
    #[.func (.yield (w.heap.size + 1)) #[] #[]] ++ lb, W1, ?_, ?_, ?_, ?_, fun _ => h1, ?_⟩
  · rw [← hW1, hrec]; exact run_enterLoop_outer _ _ _ _ _
  · simp only [resolve, hg]
    simp [go_sem]
  · intro f' hf'; simp [Target.leads] at hf'; subst hf'; exact hFg
  · simp [invoke, go_sem, eg]
  · refine (hseq (w.heap.size + 1) (fun W => W.heap[w.heap.size + 1]? = some (.loop (rec .ready none)) ∧ W.heap[w.heap.size]? = some (.deferred (some [])))
      W1 (fun A A' hb hk => ⟨hk.same _ _ hb.1 rfl, hk.same _ _ hb.2 rfl⟩) ?_ hI1 ⟨hL1, hK1⟩).mono ?_
    · -- ONE ROUND
      rintro x W hi ⟨hl, hk⟩
      have hlt : w.heap.size + 1 < W.heap.size := (Array.getElem?_eq_some_iff.1 hl).1
      have hy := run_yield (P := P) (args := encs x) hl (by rw [hrec]; exact hps x)
      rw [hrec] at hy
      refine ⟨fn, _, assign, body, hy, roundIn_of_wpIn hfn (hassign _ x W _ ⟨_, run_beginRound hl (by rw [hrec]), ?_⟩)⟩
      have hl2 : (W.putObj (w.heap.size + 1) (.loop { rec .ready none with state := .busy })).heap[w.heap.size + 1]? = some (.loop { rec .ready none with state := .busy }) := World.putObj_heap_same hlt
      have hk2 : (W.putObj (w.heap.size + 1) (.loop { rec .ready none with state := .busy })).heap[w.heap.size]? = some (.deferred (some [])) := (World.putObj_heap_other (by omega)).trans hk
      refine wpIn_mono (hbody _ x _ (hI.putObj _ hi (by omega) hl rfl)) ?_
      rintro e a3 W3 hp
      cases e with
      | normal =>
        obtain ⟨hk3, hi3⟩ := hp
        have hl3 := hk3.same _ _ (by omega) hl2 rfl
        have hr := run_endRound (P := P) none hl3
        rw [hrec] at hl3
        refine ⟨_, _, hr, rfl, hI'.putObj _ hi3 (by omega) hl3 rfl, ?_, (World.putObj_heap_other (by omega)).trans (hk3.same _ _ (by omega) hk2 rfl)⟩
        rw [hrec]
        exact World.putObj_heap_same (Array.getElem?_eq_some_iff.1 hl3).1
      | _ => exact hp.elim
    · -- BEHIND THE ITERATOR
      rintro e W2 ⟨⟨v, rfl⟩, hfin, hl, hk⟩
      exact ⟨none, _, by have := run_endLoop (P := P) hl (by rw [hrec]; simp); rw [hrec] at this; exact this, hdone _ _ (Nat.le_refl _) (hFin.putObj (s := ()) _ hfin (by omega) hl rfl) ((World.putObj_heap_other (by omega)).trans hk)⟩
end Go.Proofs.YtianflcfjaddlaaDoor
