/- The walk of DigestOwns. -/
import Derived.Test.YthkajdmedijlfaaDoorDgLaw
import Derived.Maps.AppendAt
import Derived.Laws.IdiomStrings
import Derived.Deep.LoopGhost
namespace Go.Proofs.YthkajdmedijlfaaDoor
open Go.ChangeShapes Go.WideShapes Go.ChangeAt Go.RowKit

/-- An append whose run is known. -/
theorem wpList_append_run {P : Program} {ops : Array Oper} {rest : List Oper} {o : Oper} {a : Act} {w w' : World} {Q : Exit → Act → World → Prop} (hgd : o.guard = none) (s x : Operand) (t : TypeId) {v u v' : Value}
    (ho : o.op = .call { callee := .builtin .append, args := #[s, x], argTypes := #[t, t] }) (hs : a.eval s = v) (hx : a.eval x = u) (hr : (Builtin.append_ #[t, t] o.type #[v, u]).run P w = .ok v' w')
    (h : wpList P ops Q rest (a.put o.dst v') w') : wpList P ops Q (o :: rest) a w := by
  refine wpList_plain hgd fun K hK => ?_
  unfold Oper.wp execOp
  simp only [ho, resolve, invoke, builtin, Sem.run_bind, Sem.run_pure, Result.andThen_ok, List.map_toArray, List.map_cons, List.map_nil, hs, hx, hr]
  exact hK _ _ h
/-- 'append(nil, b...)', b having come in. -/
theorem append_in (N : Nat) (X : Option Addr) (c : Nat) (us : List Int) (W : World) (hX : InS W N X us) (hnil : X = none → c = 0) (hm : us.length ≤ 100000) :
    ∃ A cap W', (Builtin.append_ #[22, 22] 22 #[.slice none 0 0, .slice X us.length c]).run Tryd.prog W = .ok (.slice A us.length cap) W' ∧ Below W.heap.size W W' ∧ us.length ≤ cap ∧ (us.length = 0 → A = none ∧ cap = 0) ∧
      (0 < us.length → ∃ g, A = some ⟨g, 0, none⟩ ∧ Made W.heap.size W' g us.length us) := by
  obtain ⟨i0, hi, hz0, hz1, hz2⟩ := info_parts infoU8
  by_cases h0 : us.length = 0
  · have e : us = [] := List.length_eq_zero_iff.1 h0
    subst e
    cases X with
    | none =>
      obtain rfl := hnil rfl
      refine ⟨none, 0, W, ?_, Below.refl _ _, by simp, fun _ => ⟨rfl, rfl⟩, fun h => by simp at h⟩
      simp [Builtin.append_, go_sem, run_underlying Tryd.underlying22]
    | some ad =>
      obtain ⟨v', w', hr, hown, hg, hv, _⟩ := run_append_own_at (P := Tryd.prog) W W.heap.size 22 22 5 i0 (.int .u8 0) 1 1 Tryd.underlying22 hi hz0 hz1 hz2 rfl (by decide) (.slice none 0 0) 0 [] (World.ownsRow_nil _ _ _ _) ad 0 c [] rfl (fun j u h => by simp at h) (fun u h => by simp at h) (by unfold maxLen; omega) (by omega) (Nat.le_refl _)
      obtain rfl := hv.2 ⟨rfl, rfl⟩
      exact ⟨none, 0, w', hr, (Below.refl _ _).grown hg (Nat.le_refl _) (fun k e => by simp [Value.ownBlock] at e), by simp, fun _ => ⟨rfl, rfl⟩, fun h => by simp at h⟩
  · obtain ⟨ad, rfl, h2, h3⟩ := hX (by omega)
    obtain ⟨v', w', hr, hown, hg, hv, _⟩ := run_append_own_at (P := Tryd.prog) W W.heap.size 22 22 5 i0 (.int .u8 0) 1 1 Tryd.underlying22 hi hz0 hz1 hz2 rfl (by decide) (.slice none 0 0) 0 [] (World.ownsRow_nil _ _ _ _) ad us.length c (us.map (Value.int .u8)) (by simp) (fun j u h => by
        rw [List.getElem?_map] at h
        obtain ⟨e, he, rfl⟩ := Option.map_eq_some_iff.1 h
        exact h3 j e he) (fun u h => by obtain ⟨e, _, rfl⟩ := List.mem_map.1 h; rfl) (by unfold maxLen; omega) (by omega) (Nat.le_refl _)
    rw [Nat.zero_add, List.nil_append] at hown
    obtain ⟨g, cap, rfl, hc, hmade⟩ := made_of_own (by omega) hown
    exact ⟨_, cap, w', hr, (Below.refl _ _).grown hg (Nat.le_refl _) (fun k e => by simp [Value.ownBlock] at e), hc, fun h => absurd h h0, fun _ => ⟨g, rfl, hmade⟩⟩

theorem strOf_getD (us : List Int) (hu : ∀ e ∈ us, 0 ≤ e ∧ e < 256) (i : Nat) (hi : i < us.length) (h : i < (strOfNums us).data.size) : (((strOfNums us).data[i].toNat : Nat) : Int) = us.getD i 0 := by
  have e : (strOfNums us).data[i] = UInt8.ofNat (us[i]).toNat := by
    simp [strOfNums]
  have hb := hu _ (List.getElem_mem hi)
  rw [e, List.getD_eq_getElem?_getD, List.getElem?_eq_getElem hi, UInt8.toNat_ofNat']
  simp only [Option.getD_some]
  omega
/-- '[]byte(s)'. -/
theorem bytes_back (us : List Int) (hu : ∀ e ∈ us, 0 ≤ e ∧ e < 256) (W : World) :
    ∃ cap W', (convert 9 22 (.string (strOfNums us))).run Tryd.prog W = .ok (.slice (some ⟨W.heap.size, 0, none⟩) us.length cap) W' ∧ Below W.heap.size W W' ∧ W.heap.size < W'.heap.size ∧ us.length ≤ cap ∧ ∀ i, i < us.length → W'.cell? ⟨W.heap.size, i, none⟩ = some (.int .u8 (us.getD i 0)) := by
  have hs := strOfNums_size us
  have hr := run_bytes_of_string (P := Tryd.prog) W 9 22 5 (strOfNums us) Tryd.underlying9 Tryd.underlying22 Tryd.underlying5
  rw [hs] at hr
  refine ⟨_, _, hr, ⟨rfl, rfl, rfl, by simp, fun k hk => Below.heap_alloc _ _ k hk⟩, by simp, grownCap_ge _ _ _ _, fun i hi => ?_⟩
  have hd : i < (strOfNums us).data.size := by rw [show (strOfNums us).data.size = (strOfNums us).size from rfl, hs]; exact hi
  have hb := bytesRow_at (strOfNums us) (grownCap W us.length 0 5) i hd
  rw [strOf_getD us hu i hi hd] at hb
  generalize bytesRow (strOfNums us) (grownCap W us.length 0 5) = C at hb
  have hn : (W.drew.alloc (.cells C 5 (C.size, C.size + 1))).heap[W.heap.size]? = some (.cells C 5 (C.size, C.size + 1)) := by
    show (W.heap.push _)[W.heap.size]? = _
    simp
  unfold World.cell?
  rw [hn]
  simpa using hb

theorem Made.set {B g n : Nat} {W : World} {ds : List Int} (h : Made B W g n ds) (i : Nat) (x : Int) : ∃ ds', Made B (W.setCell ⟨g, i, none⟩ (.int .u8 x)) g n ds' := by
  obtain ⟨h1, h2, h3, h4, h5⟩ := h
  refine ⟨(List.range n).map fun j => if j = i then x else ds.getD j 0, h1, by simpa [World.setCell] using h2, by simp, fun j hj => ?_, fun j => (World.frozen?_setCell W _ _ _).trans (h5 j)⟩
  rw [List.getD_eq_getElem?_getD, List.getElem?_map, List.getElem?_range hj]
  simp only [Option.map_some, Option.getD_some]
  by_cases e : j = i
  · subst e
    rw [if_pos rfl]
    exact World.cell?_setCell_same' _ _ _ (by rw [h4 j hj]; rfl)
  · rw [if_neg e, World.cell?_setCell_other _ _ _ _ (fun h => e (by have := congrArg Addr.off h; exact this.symm))]
    exact h4 j hj
theorem Made.setOther {B g n : Nat} {W : World} {ds : List Int} (h : Made B W g n ds) {a : Addr} (ha : g ≠ a.block) (v : Value) : Made B (W.setCell a v) g n ds :=
  h.keeps (heap_setCell_other W a g v ha)
theorem Inv.setCell {w0 W : World} {H : Nat} {msg : List Int} (h : Inv w0 W H msg) {a : Addr} (ha : w0.heap.size ≤ a.block) (hH : H ≠ a.block) (v : Value) : Inv w0 (W.setCell a v) H msg := by
  refine ⟨h.below.setCell ha v, ?_, h.hash.kept (heap_setCell_other W a H v hH), h.le, h.two⟩
  have := h.two
  obtain ⟨t1, t2, t3⟩ := h.tabs
  exact ⟨by simpa [World.setCell] using t1, fun i hi => (World.cell?_of_block (a := ⟨0, i, none⟩) (heap_setCell_other W a 0 v (by omega))).trans (t2 i hi), fun i hi => (World.cell?_of_block (a := ⟨1, i, none⟩) (heap_setCell_other W a 1 v (by omega))).trans (t3 i hi)⟩
theorem inv_write' {w0 W : World} {H : Nat} {msg : List Int} (h : Inv w0 W H msg) (X : Option Addr) (c : Nat) (ds msg' : List Int) (hmsg : ∀ e ∈ msg, 0 ≤ e ∧ e < 256) (hds : ∀ e ∈ ds, 0 ≤ e ∧ e < 256) (hlen : msg.length + ds.length ≤ 1000000000)
    (hX : RestS W W.heap.size H X ds) (hc : ds.length ≤ c) (hm : msg' = msg ++ ds) :
    Calls Tryd.prog 18 #[.pointer (some ⟨H, 0, none⟩), .slice X ds.length c] W fun e W' => e = .returned (.tuple #[]) ∧ W.grownBy W' (some H) ∧ Inv w0 W' H msg' := by
  refine (hwrite_any H cuL sqL msg ds X c W (Nat.le_trans h.two h.le) h.hash hmsg hds hlen hX hc h.tabs.2.2).mono fun _ _ ⟨he, hg, hh⟩ => ⟨he, hg, ?_⟩
  subst hm
  exact ⟨h.below.grown hg h.below.size (fun k e => by cases e; exact h.le), h.tabs.grown hg (Nat.le_trans h.two h.le), hh, h.le, h.two⟩
theorem Made.grown {B g n H : Nat} {W W' : World} {ds : List Int} (h : Made B W g n ds) (hg : W.grownBy W' (some H)) (hne : g ≠ H) : Made B W' g n ds :=
  h.keeps (hg.block g h.2.1 (fun e => hne (by injection e)))
theorem conv_any {A : Option Addr} {n cap : Nat} {W : World} {us : List Int} (hn : us.length = n) (h0 : n = 0 → A = none ∧ cap = 0) (h1 : 0 < n → ∃ g B, A = some ⟨g, 0, none⟩ ∧ Made B W g n us) :
    (convert 22 9 (.slice A n cap)).run Tryd.prog W = .ok (.string (strOfNums us)) W := by
  by_cases h : n = 0
  · obtain ⟨rfl, rfl⟩ := h0 h
    subst h
    have e : us = [] := List.length_eq_zero_iff.1 hn
    subst e
    exact run_convert_bytes_nil W 22 5 Tryd.underlying22 Tryd.underlying5 0 0 9 Tryd.underlying9
  · obtain ⟨g, B, rfl, hm⟩ := h1 (by omega)
    exact conv_made hm cap

theorem made_cells {B g n : Nat} {W : World} {us : List Int} (h : Made B W g n us) : ∀ i e, us[i]? = some e → W.cell? ((⟨g, 0, none⟩ : Addr).add i) = some (.int .u8 e) := fun i e he => by
  have hi : i < us.length := (List.getElem?_eq_some_iff.1 he).1
  rw [Addr.add_lit, Nat.zero_add, h.2.2.2.1 i (by have := h.2.2.1; omega), List.getD_eq_getElem?_getD, he]
  rfl
/-- The slice A holds n bytes of its own, in a block from w1's end on. -/
def Own (w1 W : World) (A : Option Addr) (n : Nat) (ds : List Int) : Prop := 0 < n → ∃ g, A = some ⟨g, 0, none⟩ ∧ Made w1.heap.size W g n ds
/-- That block is neither the hash's nor g1. -/
def Far (A : Option Addr) (n H g1 : Nat) : Prop := 0 < n → ∀ g, A = some ⟨g, 0, none⟩ → g ≠ H ∧ g ≠ g1
set_option maxHeartbeats 1000000 in
set_option maxRecDepth 100000 in
theorem owns_walk (X : Option Addr) (c : Nat) (xs : List Int) (w : World) (hT : Tables w) (hx : ∀ e ∈ xs, 0 ≤ e ∧ e < 256) (hc : xs.length ≤ c) (hX : InS w w.heap.size X xs) (hcm : c ≤ maxLen) (hnil : X = none → c = 0) :
    Calls Tryd.prog 7 #[.slice X xs.length c] w fun e w' => e = .returned (.bool true) ∧ Below w.heap.size w w' := by
  have F1 := Lib.hid (fun W => few_any X c xs W hc (fun h => by obtain ⟨a, ha, _⟩ := hX h; exact ⟨a, ha⟩) (Nat.le_trans hc hcm))
  have hX' := hX.take 400
  have hx' : ∀ e ∈ xs.take 400, 0 ≤ e ∧ e < 256 := fun e he => hx e (List.mem_of_mem_take he)
  have hxl : (xs.take 400).length ≤ 400 := List.length_take_le _ _
  have hcl : (xs.take 400).length ≤ c := by simp; omega
  clear hX hx hc hcm
  generalize xs.take 400 = us at *
  have HT := Lib.hid hT
  have HQ := Lib.hid (And.intro hX' (And.intro hx' (And.intro hcl hnil)))
  clear hX' hx' hcl hT hnil
  go_enter Tryd.func7, Tryd.ntmps7
  go_wp2_with fail
  go_at_call 17
  refine (inv_new _ HT.out).mono ?_
  rintro e w1 ⟨H, rfl, hI1⟩
  go_wp2_with fail
  go_at_call 9
  refine (F1.out _).mono ?_
  rintro e w' ⟨rfl, rfl⟩
  obtain ⟨A, cap, w2, happ, hb2, hcap, hA0, hA1⟩ := append_in w.heap.size X c us w1 (HQ.out.1.on hI1.below) HQ.out.2.2.2 (by omega)
  have hI2 := hI1.on hb2
  have hHlt := hI1.hash.lt
  have hA1' : 0 < us.length → ∃ g B, A = some ⟨g, 0, none⟩ ∧ Made B w2 g us.length us := fun h => by obtain ⟨g, h1, h2⟩ := hA1 h; exact ⟨g, _, h1, h2⟩
  have hcv := conv_any rfl hA0 hA1'
  have HA := Lib.hid (And.intro hA0 (And.intro hA1 (And.intro hcap hHlt)))
  have HP := Lib.hid happ
  clear hA0 hA1 hA1' hI1 hb2 hcap hHlt happ
  go_wp2_with (at_builtin; refine wpList_append_run rfl _ _ 22 rfl rfl rfl HP.out ?_)
  clear hcv HP
  obtain ⟨hA0, hA1, hcap, hHlt⟩ := HA.out
  have hu := HQ.out.2.1
  go_at_call 18
  refine (inv_write' hI2 A cap us us (by simp) hu (by simp; omega) (fun hp => by obtain ⟨g, h1, h2⟩ := hA1 hp; exact ⟨_, h1, ⟨h2.2.1, by have := h2.1; show g ≠ H; omega⟩, made_cells h2⟩) hcap (by simp)).mono ?_
  rintro e w3 ⟨rfl, hg3, hI3⟩
  have hO3 : Own w1 w3 A us.length us := fun hp => by obtain ⟨g, h1, h2⟩ := hA1 hp; exact ⟨g, h1, h2.grown hg3 (by have := h2.1; omega)⟩
  have H3 := Lib.hid (And.intro hA0 (And.intro hA1 (And.intro hcap hHlt)))
  clear hA0 hA1 hcap hg3 hI2 HA
  go_wp2_with fail
  go_at_call 19
  refine (inv_sum hI3 hu (by omega)).mono ?_
  rintro e w4 ⟨g1, cap1, rfl, -, hI4, hb4, hm1⟩
  have hcv1 : (convert 22 9 (.slice (some ⟨g1, 0, none⟩) 32 cap1)).run Tryd.prog w4 = .ok (.string (digS us)) w4 := conv_made hm1 cap1
  have hO4 : Own w1 w4 A us.length us := fun hp => by obtain ⟨g, h1, h2⟩ := hO3 hp; exact ⟨g, h1, h2.keeps (hb4.block g h2.2.1)⟩
  have hcv2 := conv_any (cap := cap) rfl H3.out.1 (fun hp => by obtain ⟨g, h1, h2⟩ := hO4 hp; exact ⟨g, _, h1, h2⟩)
  have hH1 : Far A us.length H g1 := fun hp g hg => by
    obtain ⟨g', h1, h2⟩ := hO3 hp
    rw [h1] at hg
    cases hg
    have := h2.1
    have := h2.2.1
    have := hm1.1
    have := hI3.hash.lt
    exact ⟨by omega, by omega⟩
  have hg1 : g1 ≠ H ∧ w.heap.size ≤ g1 := by
    have := hI3.hash.lt
    have := hm1.1
    have := hI3.below.size
    omega
  have H4 := Lib.hid (And.intro hO4 (And.intro hI4 (And.intro hm1 (And.intro hH1 hg1))))
  have H5 := Lib.hid hu
  have hw1 := Lib.hid (show w.heap.size ≤ w1.heap.size by have := hI3.le; omega)
  clear hO3 hI3 hO4 hI4 hb4 hm1 hH1 hg1 hu
  go_wp2_with fail
  clear hcv1 hcv2
  go_loopg [9] us.length (fun g i wr => ∃ k : Nat, k ≤ us.length ∧ g = us.length - k ∧ i = .int .i64 k ∧ Inv w wr H us ∧ Made w3.heap.size wr g1 32 (dig32 cuL sqL us) ∧ ∃ ds, Own w1 wr A us.length ds)
  case atStart => exact ⟨0, Nat.zero_le _, rfl, rfl, H4.out.2.1, H4.out.2.2.1, us, H4.out.1⟩
  case round =>
    obtain ⟨k, hk, rfl, rfl, hI, hm, ds, hO⟩ := hrel
    by_cases hkl : k < us.length
    · have hkz : (k : Int) < (us.length : Int) := by omega
      obtain ⟨g, rfl, hmg⟩ := hO (by omega)
      have hfar := H4.out.2.2.2.1 (by omega) g rfl
      have c1 : wr.cell? ⟨g, k, none⟩ = some (.int .u8 (ds.getD k 0)) := hmg.2.2.2.1 k hkl
      have f1 : wr.frozen? ⟨g, k, none⟩ = false := hmg.2.2.2.2 k
      have HR := Lib.hid (And.intro hI (And.intro hm (And.intro hmg hfar)))
      clear hI hm hO hmg hfar
      go_wp2
      obtain ⟨hI, hm, hmg, hfar⟩ := HR.out
      go_roundg (us.length - (k + 1))
      case measure => omega
      case rel =>
        obtain ⟨ds', hd⟩ := hmg.set k _
        exact ⟨k + 1, by omega, rfl, by go_num, hI.setCell (by have := hmg.1; have := hw1.out; show w.heap.size ≤ g; omega) (fun h => hfar.1 h.symm) _, hm.setOther (fun h => hfar.2 h.symm) _, ds', fun _ => ⟨g, rfl, hd⟩⟩
    · obtain rfl : k = us.length := by omega
      have HR := Lib.hid (And.intro hI hm)
      clear hI hm hO
      go_wp2_with fail
      go_loopg [10] 32 (fun g i wr => ∃ k : Nat, k ≤ 32 ∧ g = 32 - k ∧ i = .int .i64 k ∧ Inv w wr H us ∧ ∃ ds, Made w3.heap.size wr g1 32 ds)
      case atStart => exact ⟨0, Nat.zero_le _, rfl, rfl, HR.out.1, _, HR.out.2⟩
      case round =>
        obtain ⟨k, hk, rfl, rfl, hI, ds, hm⟩ := hrel
        by_cases hkl : k < 32
        · have hkz : (k : Int) < 32 := by omega
          have c1 : wr.cell? ⟨g1, k, none⟩ = some (.int .u8 (ds.getD k 0)) := hm.2.2.2.1 k hkl
          have f1 : wr.frozen? ⟨g1, k, none⟩ = false := hm.2.2.2.2 k
          have HS := Lib.hid (And.intro hI hm)
          clear hI hm
          go_wp2
          obtain ⟨hI, hm⟩ := HS.out
          go_roundg (32 - (k + 1))
          case measure => omega
          case rel =>
            obtain ⟨ds', hd⟩ := hm.set k 7
            exact ⟨k + 1, by omega, rfl, by go_num, hI.setCell H4.out.2.2.2.2.2 (fun h => H4.out.2.2.2.2.1 h.symm) _, ds', hd⟩
        · obtain rfl : k = 32 := by omega
          have hu := H5.out
          clear hm HR
          go_wp2_with fail
          go_at_call 19
          refine (inv_sum hI hu (by omega)).mono ?_
          rintro e w5 ⟨g3, cap3, rfl, -, hI5, hb5, hm3⟩
          have hcv3 : (convert 22 9 (.slice (some ⟨g3, 0, none⟩) 32 cap3)).run Tryd.prog w5 = .ok (.string (digS us)) w5 := conv_made hm3 cap3
          obtain ⟨capb, w6, hbb, hb6, hlt6, hcapb, hcb⟩ := bytes_back us hu w5
          have hI6 := (hI5.on hb6).alloc (.cells #[.slice (some ⟨w5.heap.size, 0, none⟩) us.length capb] 22)
          have hin : InS (w6.alloc (.cells #[.slice (some ⟨w5.heap.size, 0, none⟩) us.length capb] 22)) w6.heap.size (some ⟨w5.heap.size, 0, none⟩) us := fun hp => ⟨_, rfl, hlt6, fun i e he => by
            have hi : i < us.length := (List.getElem?_eq_some_iff.1 he).1
            rw [Addr.add_lit, Nat.zero_add, World.cell?_alloc_lt w6 _ ⟨w5.heap.size, i, none⟩ hlt6, hcb i hi, List.getD_eq_getElem?_getD, he]
            rfl⟩
          have hS := inv_sum256 hI6 (some ⟨w6.heap.size, 0, none⟩) 1 1 [us] us (parts_one hin hcapb (cell_of_row _ _ 0 _ _ (0, 0) (heap_alloc_new _ _)) (by simp)) (by simpa using hu) (by simp) (by omega) rfl (by omega)
          have HS := Lib.hid hS
          clear hI5 hb5 hm3 hb6 hlt6 hcapb hcb hI6 hin hS hI hu
          go_wp2_with fail
          go_at_call 11
          refine HS.out.mono ?_
          rintro e w7 ⟨g4, cap4, rfl, -, hI7, -, hm4⟩
          have hcv4 : (convert 22 9 (.slice (some ⟨g4, 0, none⟩) 32 cap4)).run Tryd.prog w7 = .ok (.string (digS us)) w7 := conv_made hm4 cap4
          clear hm4 hcv3 hbb HS
          go_wp2_with fail
          clear hcv4
          go_at_call 13
          refine (inv_lives hI7).mono ?_
          rintro e w8 ⟨rfl, hI8⟩
          go_wp2_with fail
          go_ret
          exact ⟨rfl, hI8.below⟩
end Go.Proofs.YthkajdmedijlfaaDoor
