/- The walk of DigestPieces. -/
import Derived.Test.YtliejejfbackbaaDoorDgPiecesA
import Derived.Deep.DeepCutAuto
import Derived.Deep.LoopGhost
import Derived.IntWalk
namespace Go.Proofs.YtliejejfbackbaaDoor
open Go.ChangeShapes Go.WideShapes Go.ChangeAt Go.RowKit

/-- What holds ahead of round k: so many parts were written, all of them one behind the other lie in a, they themselves in b. -/
structure PInv (w w1 wr : World) (H : Nat) (A : Option Addr) (qs : List (List Int)) (k : Nat) (a b : Value) : Prop where
  inv : Inv w wr H (qs.take k).flatten
  all : wr.ownsRow w1.heap.size 5 1 a (qs.take k).flatten.length ((qs.take k).flatten.map (Value.int .u8))
  parts : wr.ownsRow w1.heap.size 22 1 b k ((List.range k).map (cutV w A))
  apart : a.ownBlock = none ∨ a.ownBlock ≠ b.ownBlock
  far : H < w1.heap.size
  size : w1.heap.size ≤ wr.heap.size

/-- What is known of the parts, cut. -/
def QsOf (w : World) (A : Option Addr) (qs : List (List Int)) : Prop :=
  ∀ i q, qs[i]? = some q → ∃ X c, cutV w A i = .slice X q.length c ∧ q.length ≤ c ∧ (X = none → c = 0) ∧ (∀ e ∈ q, 0 ≤ e ∧ e < 256) ∧ InS w w.heap.size X q ∧ q.length ≤ 150
theorem qs_bytes {w : World} {A : Option Addr} {qs : List (List Int)} (h : QsOf w A qs) (k : Nat) : ∀ e ∈ (qs.take k).flatten, 0 ≤ e ∧ e < 256 := fun e he => by
  obtain ⟨q, hq, heq⟩ := List.mem_flatten.1 he
  obtain ⟨i, hi⟩ := List.getElem?_of_mem (List.mem_of_mem_take hq)
  obtain ⟨_, _, _, _, _, hb, _⟩ := h i q hi
  exact hb e heq
theorem qs_len {w : World} {A : Option Addr} {qs : List (List Int)} (h : QsOf w A qs) : ∀ k, (qs.take k).flatten.length ≤ 150 * k
  | 0 => by simp
  | k + 1 => by
    by_cases hk : k < qs.length
    · rw [flat_succ hk, List.length_append]
      obtain ⟨_, _, _, _, _, _, _, hl⟩ := h k _ (List.getElem?_eq_getElem hk)
      have := qs_len h k
      omega
    · have := qs_len h k
      rw [List.take_of_length_le (by omega)] at this ⊢
      omega
theorem PInv.on {w w1 W W' : World} {H : Nat} {A : Option Addr} {qs : List (List Int)} {k : Nat} {a b : Value} (h : PInv w w1 W H A qs k a b) (hb : Below W.heap.size W W') : PInv w w1 W' H A qs k a b := by
  have e : ∀ v : Value, v.ownBlock = none ∨ v.ownBlock ≠ none := fun v => by cases v.ownBlock <;> simp
  exact ⟨h.inv.on hb, h.all.kept (only_of_below hb none) (e _), h.parts.kept (only_of_below hb none) (e _), h.apart, h.far, Nat.le_trans h.size hb.size⟩
/-- The parts written so far, as an argument. -/
theorem parts_of {w w1 W : World} {H : Nat} {A X : Option Addr} {qs : List (List Int)} {k cap : Nat} {a : Value} (hq : QsOf w A qs) (hk : k ≤ qs.length) (h : PInv w w1 W H A qs k a (.slice X k cap)) : PartsIn W W.heap.size X (qs.take k) := fun i p hp => by
  have hik : i < k := by have := (List.getElem?_eq_some_iff.1 hp).1; simp at this; omega
  rw [List.getElem?_take_of_lt hik] at hp
  obtain ⟨Xi, c, h1, h2, h3, _, h5, _⟩ := hq i p hp
  obtain ⟨X', cap', hv, _, h6, h7⟩ := own_slice h.parts
  cases hv
  cases X with
  | none => have := (h6 rfl).1; omega
  | some ad =>
    obtain ⟨g, rfl, _, hg, hc⟩ := h7 ad rfl
    refine ⟨_, Xi, c, rfl, hg, hc i _ (by rw [List.getElem?_map, List.getElem?_range hik]; simp [h1]), h2, fun hp => ?_⟩
    obtain ⟨a', h8, h9, h10⟩ := h5 hp
    have hs := h.inv.below.size
    exact ⟨a', h8, by omega, fun j e he => (h.inv.below.cell (by rw [addr_add_block]; exact h9)).trans (h10 j e he)⟩

set_option maxHeartbeats 2000000 in
set_option maxRecDepth 100000 in
theorem pieces_walk (A : Option Addr) (c : Nat) (ps : List (List Int)) (w : World) (hT : Tables w) (hc : ps.length ≤ c) (hcm : c ≤ maxLen) (hrow : ∀ i p, ps[i]? = some p → RowAt w A i p) :
    Calls Tryd.prog 6 #[.slice A ps.length c] w fun e w' => e = .returned (.bool true) ∧ Below w.heap.size w w' := by
  unfold maxLen at hcm
  obtain ⟨qs, hqs⟩ : ∃ qs, qs = ps.map (List.take 150) := ⟨_, rfl⟩
  have hlq : qs.length = ps.length := by rw [hqs]; simp
  have hq : QsOf w A qs := fun i q hi => by
    rw [hqs, List.getElem?_map] at hi
    obtain ⟨p, hp, rfl⟩ := Option.map_eq_some_iff.1 hi
    obtain ⟨X, cx, h1, h2, h3, h4, h5⟩ := cutV_at (hrow i p hp)
    exact ⟨X, cx, h1, h2, h3, h4, h5, List.length_take_le _ _⟩
  have HQ := Lib.hid (And.intro hq (And.intro hlq (And.intro hrow hqs)))
  have hpl : ps.length ≤ 9223372036854775807 := by omega
  clear hq hlq hrow hqs hc hcm
  have HT := Lib.hid hT
  clear hT
  go_enter Tryd.func6, Tryd.ntmps6
  go_wp2_with fail
  go_at_call 17
  refine (inv_new _ HT.out).mono ?_
  rintro e w1 ⟨H, rfl, hI1⟩
  have h0 : PInv w w1 w1 H A qs 0 (.slice none 0 0) (.slice none 0 0) := ⟨by simpa using hI1, World.ownsRow_nil _ _ _ _, World.ownsRow_nil _ _ _ _, .inl rfl, hI1.hash.lt, Nat.le_refl _⟩
  have H0 := Lib.hid h0
  clear h0 hI1
  go_wp2_with fail
  go_loopg [4, 5, 6] 8 (fun g a b i wr => ∃ k : Nat, k ≤ 8 ∧ k ≤ ps.length ∧ g = 8 - k ∧ i = .int .i64 k ∧ PInv w w1 wr H A qs k a b)
  case atStart => exact ⟨0, by omega, by omega, rfl, rfl, H0.out⟩
  case round =>
    obtain ⟨k, hk8, hkl, rfl, rfl, hP⟩ := hrel
    clear H0
    by_cases hgo : k < ps.length ∧ k < 8
    · obtain ⟨hk1, hk2⟩ := hgo
      have hz1 : (k : Int) < (ps.length : Int) := by omega
      have hz2 : (k : Int) < 8 := by omega
      obtain ⟨hq, hlq, hrow, hqs⟩ := HQ.out
      obtain ⟨ad, X, cx, rfl, hadN, hcell0, hpc, hcx, hXn, hpb, hXp⟩ := hrow k ps[k] (List.getElem?_eq_getElem hk1)
      have hcell : wr.cell? (ad.add k) = some (.slice X ps[k].length cx) := (hP.inv.below.cell (by rw [addr_add_block]; exact hadN)).trans hcell0
      have hqk : qs[k]? = some (ps[k].take 150) := by rw [hqs, List.getElem?_map, List.getElem?_eq_getElem hk1]; rfl
      have hVk : cutV w (some ad) k = .slice X (ps[k].take 150).length cx := by
        simp only [cutV, Option.bind_some, hcell0, List.length_take]
        rw [Nat.min_comm]
      have hqc : (ps[k].take 150).length ≤ cx := by simp; omega
      have hqb : ∀ e ∈ ps[k].take 150, 0 ≤ e ∧ e < 256 := fun e he => hpb e (List.mem_of_mem_take he)
      have hqX : InS w w.heap.size X (ps[k].take 150) := hXp.take 150
      have hql : (ps[k].take 150).length ≤ 150 := List.length_take_le _ _
      have hsucc : (qs.take (k + 1)).flatten = (qs.take k).flatten ++ ps[k].take 150 := by
        have h1 : k < qs.length := by omega
        rw [flat_succ h1]
        have h2 : qs[k] = ps[k].take 150 := by rw [List.getElem?_eq_getElem h1] at hqk; exact Option.some.inj hqk
        rw [h2]
      have hmb := qs_bytes hq k
      have hml := qs_len hq k
      have hmb1 := qs_bytes hq (k + 1)
      have hml1 := qs_len hq (k + 1)
      have hlong : ∀ (h : 150 < ps[k].length), (ps[k].take 150).length = 150 := fun h => by simp; omega
      have hshort : ∀ (h : ¬ 150 < ps[k].length), (ps[k].take 150).length = ps[k].length := fun h => by simp; omega
      have hXs : 150 < ps[k].length → ∃ a, X = some a := fun h => by obtain ⟨a, ha, _⟩ := hXp (by omega); exact ⟨a, ha⟩
      have hpm : ps[k].length ≤ 9223372036854775807 := by unfold maxLen at hcx; omega
      obtain ⟨msg, hmsg⟩ : ∃ m, m = (qs.take k).flatten := ⟨_, rfl⟩
      obtain ⟨m2, hm2⟩ : ∃ m, m = (qs.take (k + 1)).flatten := ⟨_, rfl⟩
      have HK := Lib.hid (And.intro hqk (And.intro hVk hP))
      have hI := hP.inv
      have hall := hP.all
      have hparts := hP.parts
      have hap := hP.apart
      have hfar := hP.far
      have hsz := hP.size
      rw [← hm2] at hsucc hmb1 hml1
      rw [← hmsg] at hI hall hsucc hmb hml
      generalize hpn : ps[k].length = n at *
      generalize ps[k].take 150 = q at *
      have HC := Lib.hid (And.intro hlong (And.intro hshort (And.intro hXs (And.intro hXn (And.intro hqb (And.intro hqX (And.intro hqc (And.intro hsucc (And.intro hmb hmb1)))))))))
      have HM := Lib.hid (And.intro hmsg hm2)
      have HI := Lib.hid (And.intro hI (And.intro hall (And.intro hparts (And.intro hap (And.intro hfar hsz)))))
      clear hlong hshort hXs hXn hqb hqX hqc hsucc hmb hmb1 hmsg hm2 hI hall hparts hap hfar hsz hP hqk hVk hq hlq hrow hqs hcell0 hpb hXp hpn hcx hadN
      go_upto_if 27 with fail
      go_cut [7] (fun v w' => v = .slice X q.length cx ∧ w' = wr)
      case first =>
        obtain ⟨hlong, hshort, hXs, -⟩ := HC.out
        by_cases hb : 150 < n
        · obtain ⟨a, rfl⟩ := hXs hb
          have hbz : (150 : Int) < (n : Int) := by omega
          have hcx2 : 150 ≤ cx := by omega
          have hl := hlong hb
          have HL := Lib.hid hl
          clear hlong hshort hXs hl
          go_wp2
          go_meet
          case rel => exact ⟨by rw [HL.out], rfl⟩
        · have hbz : ¬ (150 : Int) < (n : Int) := by omega
          have HL := Lib.hid (hshort hb)
          clear hlong hshort hXs
          go_wp2
          go_meet
          case rel => exact ⟨by rw [HL.out], rfl⟩
      case rest =>
        obtain ⟨rfl, rfl⟩ := hcut
        clear hcell hpc hpm hz1 hz2
        obtain ⟨-, -, -, hXn, hqb, hqX, hqc, hsucc, hmb, hmb1⟩ := HC.out
        obtain ⟨hI, hall, hparts, hap, hfar, hsz⟩ := HI.out
        have hm2 := Lib.hid hsucc
        go_wp2_with fail
        go_at_call 18
        refine (inv_write' hI X cx q m2 hmb hqb (by omega) (fun hp => ?_) hqc hsucc).mono ?_
        · obtain ⟨a', h1, h2, h3⟩ := hqX hp
          have h4 := hI.le
          have h5 := hI.below.size
          exact ⟨a', h1, ⟨by omega, by omega⟩, fun i e he => (hI.below.cell (by rw [addr_add_block]; exact h2)).trans (h3 i e he)⟩
        rintro e w2 ⟨rfl, hg2, hI2⟩
        have hsz2 : w1.heap.size ≤ w2.heap.size := Nat.le_trans hsz hg2.size
        have hneH : ∀ {v : Value} {e : TypeId} {n : Nat} {xs : List Value}, wc.ownsRow w1.heap.size e 1 v n xs → v.ownBlock = none ∨ v.ownBlock ≠ some H := fun {v} {_} {_} {_} hv => by
          cases hb : v.ownBlock with
          | none => exact .inl rfl
          | some g => exact .inr (fun h => by injection h with h; have := (hv.lt g hb).1; omega)
        have hall2 := hall.kept hg2 (hneH hall)
        have hparts2 := hparts.kept hg2 (hneH hparts)
        obtain ⟨v4, w3, hap3, hown3, hg3, hb3⟩ := append_all w.heap.size w1.heap.size msg.length u4 (msg.map (Value.int .u8)) X cx q w2 hall2 (hqX.on hI2.below) hXn (by omega) hsz2
        have hlt4 : ∀ g, u4.ownBlock = some g → w1.heap.size ≤ g ∧ g < w2.heap.size := hall2.lt
        have hlt5 : ∀ g, u5.ownBlock = some g → w1.heap.size ≤ g ∧ g < w2.heap.size := hparts2.lt
        have hI3 := hI2.grown hg3 (fun g hg => by have := (hlt4 g hg).1; omega)
        have hparts3 := hparts2.kept hg3 (hap.elim (fun h => by rw [h]; cases u5.ownBlock <;> simp) (fun h => .inr (fun e => h e.symm)))
        have hap4 : v4.ownBlock = none ∨ v4.ownBlock ≠ u5.ownBlock := by
          rcases hb3 with h | h
          · rw [h]; exact hap
          · rw [h]; exact .inr (fun e => by have := (hlt5 _ e.symm).2; omega)
        have hsz3 : w1.heap.size ≤ w3.heap.size := Nat.le_trans hsz2 hg3.size
        obtain ⟨v5, w4, hap5, hown5, hg5, hb5⟩ := append_part w1.heap.size k u5 ((List.range k).map (cutV w (some ad))) (.slice X q.length cx) rfl w3 hparts3 (by omega) hsz3
        have hlt5' := hparts3.lt
        have hlt4' := hown3.lt
        have hI4 := (hI3.alloc (.cells #[.slice X q.length cx] 22)).grown hg5 (fun g hg => by have := (hlt5' g hg).1; omega)
        have hown4 := (hown3.alloc (.cells #[.slice X q.length cx] 22)).kept hg5 hap4
        have hP4 : PInv w w1 w4 H (some ad) qs (k + 1) v4 v5 := by
          obtain ⟨hmsg, hm2'⟩ := HM.out
          obtain ⟨hqk, hVk, hP⟩ := HK.out
          refine ⟨by rw [← hm2']; exact hI4, ?_, ?_, ?_, hfar, ?_⟩
          · rw [← hm2', hm2.out, List.length_append, List.map_append]; exact hown4
          · rw [List.range_succ, List.map_append, List.map_singleton, hVk]; exact hown5
          · rcases hb5 with h | h
            · rw [h]; exact hap4
            · rw [h]; exact .inr (fun e => by have := (hlt4' _ e).2; omega)
          · have := hg5.size; simp at this; omega
        have HA := Lib.hid hap3
        have HB := Lib.hid hap5
        have HP := Lib.hid hP4
        clear hlt4 hlt5 hlt5' hlt4' hI3 hI4 hown3 hown4 hown5 hall hall2 hparts hparts2 hparts3 hap hap4 hb3 hb5 hg2 hg3 hg5 hI hI2 hap3 hap5 hP4 hneH hXn hqb hqX hqc hsucc hmb hsz hsz2 hsz3 hfar HI hm2 HK
        go_wp2_with (first
          | (at_builtin; refine wpList_append_run rfl _ _ 22 rfl rfl rfl HA.out ?_)
          | (at_builtin; refine wpList_append_run rfl _ _ 33 rfl rfl rfl HB.out ?_))
        have hI : Inv w w4 H m2 := by rw [HM.out.2]; exact HP.out.inv
        have hall : w4.ownsRow w1.heap.size 5 1 v4 m2.length (m2.map (Value.int .u8)) := by rw [HM.out.2]; exact HP.out.all
        obtain ⟨Y, capY, rfl, hYc, -, -⟩ := own_slice hall
        have hY := own_in hall
        have hmb1 := HC.out.2.2.2.2.2.2.2.2.2
        have hm2l : m2.length ≤ 1350 := by omega
        have H1 := Lib.hid (fun (W : World) (B : Nat) (hi : Inv w W H m2) (hb : Below w4.heap.size w4 W) (hc : W.cell? ⟨B, 0, none⟩ = some (.slice Y m2.length capY)) =>
          inv_sum256 hi (some ⟨B, 0, none⟩) 1 1 [m2] m2 (parts_one (hY.on hb) hYc hc hb.size) (by simpa using hmb1) (by simp) (by omega) rfl (by omega))
        have HS := Lib.hid (fun (W : World) (hi : Inv w W H m2) => inv_sum hi hmb1 (by omega))
        have HL := Lib.hid (fun (W : World) (hi : Inv w W H m2) => inv_len hi (m2.length : Int) rfl)
        have hb0 : Below w4.heap.size w4 w4.drew := (Below.refl _ _).drew
        clear hall hY hYc hmb1 hml1 hml hql HA HB HC HM
        refine wp_region_noPanic ?_
        refine wp_region_held_drew (S := Keeps w4) (by kernel_rfl) ((Keeps.refl w4).drew) (fun hS => ?_)
        refine wpAnyH_take (i := 0) (v := ?_) (ops_at rfl) (by kernel_rfl) (by kernel_rfl) (by kernel_rfl) (fun _ _ _ h => h) (Or.inl ⟨by rfl, ?_⟩) hS ?_
        rotate_left
        · intro _ _; first | (go_simp; done) | (go_simp; with_reducible rfl)
        simp only [Act.put, List.setIfInBounds_toArray, List.set_cons_zero, List.set_cons_succ]
        refine wpAnyH_take (i := 3) (v := ?_) (ops_at rfl) (by kernel_rfl) (by kernel_rfl) (by kernel_rfl) (fun _ _ _ h => h) (Or.inl ⟨by rfl, ?_⟩) hS ?_
        rotate_left
        · intro _ _; first | (go_simp; done) | (go_simp; with_reducible rfl)
        simp only [Act.put, List.setIfInBounds_toArray, List.set_cons_zero, List.set_cons_succ]
        refine wpAnyH_ready (rs := [1, 4]) (by kernel_rfl) (by simp) ?_
        refine AllReadyH.cons (ops_at rfl) (fun K hK => ?_) ?_
        · skip
          go_simp
          go_at_call 19
          refine (HS.out _ hI.drew).mono ?_
          rintro e wS ⟨gS, capS, rfl, -, hIS, hbS, hmS⟩
          go_wp2_with fail
          refine hK.out _ _ (hS.on hbS) (fun hS => ?_)
          clear hK K
          refine held_mono (S' := Keeps wS) (fun _ hk => (hS).trans hk) _ _ _ _ ?_
          have hS := Keeps.refl wS
          refine wpAnyH_take (i := 2) (v := ?_) (ops_at rfl) (by kernel_rfl) (by kernel_rfl) (by kernel_rfl) (fun _ _ _ h => h) (Or.inl ⟨by rfl, ?_⟩) hS ?_
          rotate_left
          · intro _ hk; have hcv0 := hk.convD hmS capS; first | (go_simp; done) | (go_simp; with_reducible rfl)
          simp only [Act.put, List.setIfInBounds_toArray, List.set_cons_zero, List.set_cons_succ]
          have hbSS := hb0.trans hbS
          clear hmS hbS
          refine wpAnyH_ready (rs := [4]) (by kernel_rfl) (by simp) (AllReadyH.cons (ops_at rfl) (fun K hK => ?_) AllReadyH.nil)
          go_simp
          refine hK.out _ _ (hS.alloc _) (fun hS => ?_)
          clear hK K
          refine wpAnyH_ready (rs := [5]) (by kernel_rfl) (by simp) (AllReadyH.cons (ops_at rfl) (fun K hK => ?_) AllReadyH.nil)
          go_simp
          go_at_call 11
          refine (H1.out _ _ (hIS.alloc _) (hbSS.alloc hbSS.size _) (cell_of_row _ _ 0 _ _ (0, 0) (heap_alloc_new _ _))).mono ?_
          rintro e wT ⟨gT, capT, rfl, -, hIT, hbT, hmT⟩
          go_wp2_with fail
          refine hK.out _ _ (hS.on hbT) (fun hS => ?_)
          clear hK K
          have hbTT := (hbSS.alloc hbSS.size _).trans (hbT.mono (by have := hbSS.size; simp; omega))
          refine held_mono (S' := Keeps wT) (fun _ hk => (hS).trans hk) _ _ _ _ ?_
          have hS := Keeps.refl wT
          refine wpAnyH_take (i := 6) (v := ?_) (ops_at rfl) (by kernel_rfl) (by kernel_rfl) (by kernel_rfl) (fun _ _ _ h => h) (Or.inl ⟨by rfl, ?_⟩) hS ?_
          rotate_left
          · intro _ hk; have hcv0 := hk.convD hmT capT; first | (go_simp; done) | (go_simp; with_reducible rfl)
          simp only [Act.put, List.setIfInBounds_toArray, List.set_cons_zero, List.set_cons_succ]
          refine wpAnyH_take (i := 7) (v := ?_) (ops_at rfl) (by kernel_rfl) (by kernel_rfl) (by kernel_rfl) (fun _ _ _ h => h) (Or.inl ⟨by rfl, ?_⟩) hS ?_
          rotate_left
          · intro _ _; first | (go_simp; done) | (go_simp; with_reducible rfl)
          simp only [Act.put, List.setIfInBounds_toArray, List.set_cons_zero, List.set_cons_succ]
          refine wpAnyH_take (i := 8) (v := ?_) (ops_at rfl) (by kernel_rfl) (by kernel_rfl) (by kernel_rfl) (fun _ _ _ h => h) (Or.inl ⟨by rfl, ?_⟩) hS ?_
          rotate_left
          · intro _ _; first | (go_simp; done) | (go_simp; with_reducible rfl)
          simp only [Act.put, List.setIfInBounds_toArray, List.set_cons_zero, List.set_cons_succ]
          refine wpAnyH_take (i := 9) (v := ?_) (ops_at rfl) (by kernel_rfl) (by kernel_rfl) (by kernel_rfl) (fun _ _ _ h => h) (Or.inl ⟨by rfl, ?_⟩) hS ?_
          rotate_left
          · intro _ _; first | (go_simp; done) | (go_simp; with_reducible rfl)
          simp only [Act.put, List.setIfInBounds_toArray, List.set_cons_zero, List.set_cons_succ]
          refine wpAnyH_take (i := 11) (v := ?_) (ops_at rfl) (by kernel_rfl) (by kernel_rfl) (by kernel_rfl) (fun _ _ _ h => h) (Or.inl ⟨by rfl, ?_⟩) hS ?_
          rotate_left
          · intro _ _; first | (go_simp; done) | (go_simp; with_reducible rfl)
          simp only [Act.put, List.setIfInBounds_toArray, List.set_cons_zero, List.set_cons_succ]
          refine wpAnyH_take (i := 12) (v := ?_) (ops_at rfl) (by kernel_rfl) (by kernel_rfl) (by kernel_rfl) (fun _ _ _ h => h) (Or.inl ⟨by rfl, ?_⟩) hS ?_
          rotate_left
          · intro _ _; first | (go_simp; done) | (go_simp; with_reducible rfl)
          simp only [Act.put, List.setIfInBounds_toArray, List.set_cons_zero, List.set_cons_succ]
          refine wpAnyH_ready (rs := [10]) (by kernel_rfl) (by simp) (AllReadyH.cons (ops_at rfl) (fun K hK => ?_) AllReadyH.nil)
          go_simp
          go_at_call 20
          refine (HL.out _ hIT).mono ?_
          rintro e wL ⟨rfl, rfl⟩
          go_wp2_with fail
          refine hK.out _ _ hS (fun hS => ?_)
          clear hK K
          refine wpAnyH_take (i := 13) (v := ?_) (ops_at rfl) (by kernel_rfl) (by kernel_rfl) (by kernel_rfl) (fun _ _ _ h => h) (Or.inl ⟨by rfl, ?_⟩) hS ?_
          rotate_left
          · intro _ _; first | (go_simp; done) | (go_simp; with_reducible rfl)
          simp only [Act.put, List.setIfInBounds_toArray, List.set_cons_zero, List.set_cons_succ]
          refine wpAnyH_take (i := 14) (v := ?_) (ops_at rfl) (by kernel_rfl) (by kernel_rfl) (by kernel_rfl) (fun _ _ _ h => h) (Or.inl ⟨by rfl, ?_⟩) hS ?_
          rotate_left
          · intro _ _; first | (go_simp; done) | (go_simp; with_reducible rfl)
          simp only [Act.put, List.setIfInBounds_toArray, List.set_cons_zero, List.set_cons_succ]
          refine wpAnyH_done (by kernel_rfl) ?_ _
          refine NoPanic.normal ?_
          clear hS
          go_wp2
          go_roundg (8 - (k + 1))
          case measure => omega
          case rel => exact ⟨k + 1, by omega, by omega, rfl, by go_num, HP.out.on hbTT⟩
        refine AllReadyH.cons (ops_at rfl) (fun K hK => ?_) ?_
        · skip
          go_simp
          refine hK.out _ _ (hS.alloc _) (fun hS => ?_)
          clear hK K
          have hb1 := hb0.alloc hb0.size (.cells #[.slice Y m2.length capY] 22)
          refine wpAnyH_ready (rs := [1]) (by kernel_rfl) (by simp) (AllReadyH.cons (ops_at rfl) (fun K hK => ?_) AllReadyH.nil)
          go_simp
          go_at_call 19
          refine (HS.out _ (hI.drew.alloc _)).mono ?_
          rintro e wS ⟨gS, capS, rfl, -, hIS, hbS, hmS⟩
          go_wp2_with fail
          refine hK.out _ _ (hS.on hbS) (fun hS => ?_)
          clear hK K
          have hbSS := hb1.trans (hbS.mono (by simp))
          refine held_mono (S' := Keeps wS) (fun _ hk => (hS).trans hk) _ _ _ _ ?_
          have hS := Keeps.refl wS
          refine wpAnyH_take (i := 2) (v := ?_) (ops_at rfl) (by kernel_rfl) (by kernel_rfl) (by kernel_rfl) (fun _ _ _ h => h) (Or.inl ⟨by rfl, ?_⟩) hS ?_
          rotate_left
          · intro _ hk; have hcv0 := hk.convD hmS capS; first | (go_simp; done) | (go_simp; with_reducible rfl)
          simp only [Act.put, List.setIfInBounds_toArray, List.set_cons_zero, List.set_cons_succ]
          clear hmS
          refine wpAnyH_ready (rs := [5]) (by kernel_rfl) (by simp) (AllReadyH.cons (ops_at rfl) (fun K hK => ?_) AllReadyH.nil)
          go_simp
          go_at_call 11
          refine (H1.out _ _ hIS hbSS ((hbS.cell (by simp)).trans (cell_of_row _ _ 0 _ _ (0, 0) (heap_alloc_new _ _)))).mono ?_
          rintro e wT ⟨gT, capT, rfl, -, hIT, hbT, hmT⟩
          go_wp2_with fail
          refine hK.out _ _ (hS.on hbT) (fun hS => ?_)
          clear hK K
          have hbTT := hbSS.trans (hbT.mono hbSS.size)
          refine held_mono (S' := Keeps wT) (fun _ hk => (hS).trans hk) _ _ _ _ ?_
          have hS := Keeps.refl wT
          refine wpAnyH_take (i := 6) (v := ?_) (ops_at rfl) (by kernel_rfl) (by kernel_rfl) (by kernel_rfl) (fun _ _ _ h => h) (Or.inl ⟨by rfl, ?_⟩) hS ?_
          rotate_left
          · intro _ hk; have hcv0 := hk.convD hmT capT; first | (go_simp; done) | (go_simp; with_reducible rfl)
          simp only [Act.put, List.setIfInBounds_toArray, List.set_cons_zero, List.set_cons_succ]
          refine wpAnyH_take (i := 7) (v := ?_) (ops_at rfl) (by kernel_rfl) (by kernel_rfl) (by kernel_rfl) (fun _ _ _ h => h) (Or.inl ⟨by rfl, ?_⟩) hS ?_
          rotate_left
          · intro _ _; first | (go_simp; done) | (go_simp; with_reducible rfl)
          simp only [Act.put, List.setIfInBounds_toArray, List.set_cons_zero, List.set_cons_succ]
          refine wpAnyH_take (i := 8) (v := ?_) (ops_at rfl) (by kernel_rfl) (by kernel_rfl) (by kernel_rfl) (fun _ _ _ h => h) (Or.inl ⟨by rfl, ?_⟩) hS ?_
          rotate_left
          · intro _ _; first | (go_simp; done) | (go_simp; with_reducible rfl)
          simp only [Act.put, List.setIfInBounds_toArray, List.set_cons_zero, List.set_cons_succ]
          refine wpAnyH_take (i := 9) (v := ?_) (ops_at rfl) (by kernel_rfl) (by kernel_rfl) (by kernel_rfl) (fun _ _ _ h => h) (Or.inl ⟨by rfl, ?_⟩) hS ?_
          rotate_left
          · intro _ _; first | (go_simp; done) | (go_simp; with_reducible rfl)
          simp only [Act.put, List.setIfInBounds_toArray, List.set_cons_zero, List.set_cons_succ]
          refine wpAnyH_take (i := 11) (v := ?_) (ops_at rfl) (by kernel_rfl) (by kernel_rfl) (by kernel_rfl) (fun _ _ _ h => h) (Or.inl ⟨by rfl, ?_⟩) hS ?_
          rotate_left
          · intro _ _; first | (go_simp; done) | (go_simp; with_reducible rfl)
          simp only [Act.put, List.setIfInBounds_toArray, List.set_cons_zero, List.set_cons_succ]
          refine wpAnyH_take (i := 12) (v := ?_) (ops_at rfl) (by kernel_rfl) (by kernel_rfl) (by kernel_rfl) (fun _ _ _ h => h) (Or.inl ⟨by rfl, ?_⟩) hS ?_
          rotate_left
          · intro _ _; first | (go_simp; done) | (go_simp; with_reducible rfl)
          simp only [Act.put, List.setIfInBounds_toArray, List.set_cons_zero, List.set_cons_succ]
          refine wpAnyH_ready (rs := [10]) (by kernel_rfl) (by simp) (AllReadyH.cons (ops_at rfl) (fun K hK => ?_) AllReadyH.nil)
          go_simp
          go_at_call 20
          refine (HL.out _ hIT).mono ?_
          rintro e wL ⟨rfl, rfl⟩
          go_wp2_with fail
          refine hK.out _ _ hS (fun hS => ?_)
          clear hK K
          refine wpAnyH_take (i := 13) (v := ?_) (ops_at rfl) (by kernel_rfl) (by kernel_rfl) (by kernel_rfl) (fun _ _ _ h => h) (Or.inl ⟨by rfl, ?_⟩) hS ?_
          rotate_left
          · intro _ _; first | (go_simp; done) | (go_simp; with_reducible rfl)
          simp only [Act.put, List.setIfInBounds_toArray, List.set_cons_zero, List.set_cons_succ]
          refine wpAnyH_take (i := 14) (v := ?_) (ops_at rfl) (by kernel_rfl) (by kernel_rfl) (by kernel_rfl) (fun _ _ _ h => h) (Or.inl ⟨by rfl, ?_⟩) hS ?_
          rotate_left
          · intro _ _; first | (go_simp; done) | (go_simp; with_reducible rfl)
          simp only [Act.put, List.setIfInBounds_toArray, List.set_cons_zero, List.set_cons_succ]
          refine wpAnyH_done (by kernel_rfl) ?_ _
          refine NoPanic.normal ?_
          clear hS
          go_wp2
          go_roundg (8 - (k + 1))
          case measure => omega
          case rel => exact ⟨k + 1, by omega, by omega, rfl, by go_num, HP.out.on hbTT⟩
        exact AllReadyH.nil
    · obtain ⟨hq, hlq, -⟩ := HQ.out
      obtain ⟨msg, hmsg⟩ : ∃ m, m = (qs.take k).flatten := ⟨_, rfl⟩
      have hall := hP.all
      have hI := hP.inv
      obtain ⟨Y, capY, rfl, hYc, -, -⟩ := own_slice hall
      have hY := own_in hall
      obtain ⟨X, capX, rfl, hXc, -, -⟩ := own_slice hP.parts
      have hparts := parts_of hq (by omega) hP
      have hmb := qs_bytes hq k
      have hml := qs_len hq k
      have hpb : ∀ p ∈ qs.take k, ∀ e ∈ p, 0 ≤ e ∧ e < 256 := fun p hp e he => by
        obtain ⟨i, hi⟩ := List.getElem?_of_mem (List.mem_of_mem_take hp)
        obtain ⟨_, _, _, _, _, hb, _⟩ := hq i p hi
        exact hb e he
      have hlk : (qs.take k).length = k := by simp; omega
      have hnz : ¬ (k : Int) < (ps.length : Int) ∨ (k : Int) < (ps.length : Int) ∧ ¬ (k : Int) < 8 := by omega
      rw [← hmsg] at hall hI hY hYc hmb hml
      have HE := Lib.hid hmsg
      have P1 := Lib.hid (fun (W : World) (hi : Inv w W H msg) (hb : Below wr.heap.size wr W) => inv_sum256 hi X capX k (qs.take k) msg (parts_below hparts hb) hpb hmsg (by omega) hlk (by omega))
      have P2 := Lib.hid (fun (W : World) (hi : Inv w W H msg) (hb : Below wr.heap.size wr W) => inv_sum512 hi X capX k (qs.take k) msg (parts_below hparts hb) hpb hmsg (by omega) hlk (by omega))
      have A1 := Lib.hid (fun (W : World) (B : Nat) (hi : Inv w W H msg) (hb : Below wr.heap.size wr W) (hc : W.cell? ⟨B, 0, none⟩ = some (.slice Y msg.length capY)) =>
        inv_sum256 hi (some ⟨B, 0, none⟩) 1 1 [msg] msg (parts_one (hY.on hb) hYc hc hb.size) (by simpa using hmb) (by simp) (by omega) rfl (by omega))
      have A2 := Lib.hid (fun (W : World) (B : Nat) (hi : Inv w W H msg) (hb : Below wr.heap.size wr W) (hc : W.cell? ⟨B, 0, none⟩ = some (.slice Y msg.length capY)) =>
        inv_sum512 hi (some ⟨B, 0, none⟩) 1 1 [msg] msg (parts_one (hY.on hb) hYc hc hb.size) (by simpa using hmb) (by simp) (by omega) rfl (by omega))
      rw [← hmsg]
      have hb0 : Below wr.heap.size wr wr.drew := (Below.refl _ _).drew
      clear hP hq hlq hall hY hYc hXc hparts hmb hml hpb hlk hmsg HQ HT HE hgo
      rcases hnz with hnz | ⟨hnz1, hnz⟩
      all_goals
        go_wp2_with fail
        have hI0 := hI.drew
        refine wp_region_noPanic ?_
        refine wp_region_held_drew (S := Keeps wr) (by kernel_rfl) ((Keeps.refl wr).drew) (fun hS => ?_)
        refine wpAnyH_take (i := 0) (v := ?_) (ops_at rfl) (by kernel_rfl) (by kernel_rfl) (by kernel_rfl) (fun _ _ _ h => h) (Or.inl ⟨by rfl, ?_⟩) hS ?_
        rotate_left
        · intro _ _; first | (go_simp; done) | (go_simp; with_reducible rfl)
        simp only [Act.put, List.setIfInBounds_toArray, List.set_cons_zero, List.set_cons_succ]
        refine wpAnyH_take (i := 3) (v := ?_) (ops_at rfl) (by kernel_rfl) (by kernel_rfl) (by kernel_rfl) (fun _ _ _ h => h) (Or.inl ⟨by rfl, ?_⟩) hS ?_
        rotate_left
        · intro _ _; first | (go_simp; done) | (go_simp; with_reducible rfl)
        simp only [Act.put, List.setIfInBounds_toArray, List.set_cons_zero, List.set_cons_succ]
        refine wpAnyH_ready (rs := [1, 4]) (by kernel_rfl) (by simp) ?_
        refine AllReadyH.cons (ops_at rfl) (fun K hK => ?_) ?_
        · skip
          go_simp
          go_at_call 11
          refine (P1.out _ hI0 hb0).mono ?_
          rintro e wS ⟨gS, capS, rfl, -, hIS, hbS, hmS⟩
          go_wp2_with fail
          refine hK.out _ _ (hS.on hbS) (fun hS => ?_)
          clear hK K
          refine held_mono (S' := Keeps wS) (fun _ hk => (hS).trans hk) _ _ _ _ ?_
          have hS := Keeps.refl wS
          refine wpAnyH_take (i := 2) (v := ?_) (ops_at rfl) (by kernel_rfl) (by kernel_rfl) (by kernel_rfl) (fun _ _ _ h => h) (Or.inl ⟨by rfl, ?_⟩) hS ?_
          rotate_left
          · intro _ hk; have hcv0 := hk.convD hmS capS; first | (go_simp; done) | (go_simp; with_reducible rfl)
          simp only [Act.put, List.setIfInBounds_toArray, List.set_cons_zero, List.set_cons_succ]
          have hbSS := hb0.trans hbS
          clear hmS hbS
          refine wpAnyH_ready (rs := [4]) (by kernel_rfl) (by simp) (AllReadyH.cons (ops_at rfl) (fun K hK => ?_) AllReadyH.nil)
          go_simp
          refine hK.out _ _ (hS.alloc _) (fun hS => ?_)
          clear hK K
          refine wpAnyH_ready (rs := [5]) (by kernel_rfl) (by simp) (AllReadyH.cons (ops_at rfl) (fun K hK => ?_) AllReadyH.nil)
          go_simp
          go_at_call 11
          refine (A1.out _ _ (hIS.alloc _) (hbSS.alloc hbSS.size _) (cell_of_row _ _ 0 _ _ (0, 0) (heap_alloc_new _ _))).mono ?_
          rintro e wT ⟨gT, capT, rfl, -, hIT, hbT, hmT⟩
          go_wp2_with fail
          refine hK.out _ _ (hS.on hbT) (fun hS => ?_)
          clear hK K
          have hbTT := (hbSS.alloc hbSS.size _).trans (hbT.mono (by have := hbSS.size; simp; omega))
          clear hbT hbSS hIS
          refine held_mono (S' := Keeps wT) (fun _ hk => (hS).trans hk) _ _ _ _ ?_
          have hS := Keeps.refl wT
          refine wpAnyH_take (i := 6) (v := ?_) (ops_at rfl) (by kernel_rfl) (by kernel_rfl) (by kernel_rfl) (fun _ _ _ h => h) (Or.inl ⟨by rfl, ?_⟩) hS ?_
          rotate_left
          · intro _ hk; have hcv0 := hk.convD hmT capT; first | (go_simp; done) | (go_simp; with_reducible rfl)
          simp only [Act.put, List.setIfInBounds_toArray, List.set_cons_zero, List.set_cons_succ]
          refine wpAnyH_take (i := 7) (v := ?_) (ops_at rfl) (by kernel_rfl) (by kernel_rfl) (by kernel_rfl) (fun _ _ _ h => h) (Or.inl ⟨by rfl, ?_⟩) hS ?_
          rotate_left
          · intro _ _; first | (go_simp; done) | (go_simp; with_reducible rfl)
          simp only [Act.put, List.setIfInBounds_toArray, List.set_cons_zero, List.set_cons_succ]
          refine wpAnyH_take (i := 8) (v := ?_) (ops_at rfl) (by kernel_rfl) (by kernel_rfl) (by kernel_rfl) (fun _ _ _ h => h) (Or.inl ⟨by rfl, ?_⟩) hS ?_
          rotate_left
          · intro _ _; first | (go_simp; done) | (go_simp; with_reducible rfl)
          simp only [Act.put, List.setIfInBounds_toArray, List.set_cons_zero, List.set_cons_succ]
          refine wpAnyH_take (i := 9) (v := ?_) (ops_at rfl) (by kernel_rfl) (by kernel_rfl) (by kernel_rfl) (fun _ _ _ h => h) (Or.inl ⟨by rfl, ?_⟩) hS ?_
          rotate_left
          · intro _ _; first | (go_simp; done) | (go_simp; with_reducible rfl)
          simp only [Act.put, List.setIfInBounds_toArray, List.set_cons_zero, List.set_cons_succ]
          refine wpAnyH_take (i := 12) (v := ?_) (ops_at rfl) (by kernel_rfl) (by kernel_rfl) (by kernel_rfl) (fun _ _ _ h => h) (Or.inl ⟨by rfl, ?_⟩) hS ?_
          rotate_left
          · intro _ _; first | (go_simp; done) | (go_simp; with_reducible rfl)
          simp only [Act.put, List.setIfInBounds_toArray, List.set_cons_zero, List.set_cons_succ]
          clear hmT
          refine wpAnyH_ready (rs := [10, 13]) (by kernel_rfl) (by simp) ?_
          refine AllReadyH.cons (ops_at rfl) (fun K hK => ?_) ?_
          · skip
            go_simp
            go_at_call 14
            refine (P2.out _ hIT hbTT).mono ?_
            rintro e wU ⟨gU, capU, rfl, -, hIU, hbU, hmU⟩
            go_wp2_with fail
            refine hK.out _ _ (hS.on hbU) (fun hS => ?_)
            clear hK K
            refine held_mono (S' := Keeps wU) (fun _ hk => (hS).trans hk) _ _ _ _ ?_
            have hS := Keeps.refl wU
            refine wpAnyH_take (i := 11) (v := ?_) (ops_at rfl) (by kernel_rfl) (by kernel_rfl) (by kernel_rfl) (fun _ _ _ h => h) (Or.inl ⟨by rfl, ?_⟩) hS ?_
            rotate_left
            · intro _ hk; have hcv0 := hk.convW hmU capU; first | (go_simp; done) | (go_simp; with_reducible rfl)
            simp only [Act.put, List.setIfInBounds_toArray, List.set_cons_zero, List.set_cons_succ]
            have hbUU := hbTT.trans (hbU.mono hbTT.size)
            clear hmU hbU
            refine wpAnyH_ready (rs := [13]) (by kernel_rfl) (by simp) (AllReadyH.cons (ops_at rfl) (fun K hK => ?_) AllReadyH.nil)
            go_simp
            refine hK.out _ _ (hS.alloc _) (fun hS => ?_)
            clear hK K
            refine wpAnyH_ready (rs := [14]) (by kernel_rfl) (by simp) (AllReadyH.cons (ops_at rfl) (fun K hK => ?_) AllReadyH.nil)
            go_simp
            go_at_call 14
            refine (A2.out _ _ (hIU.alloc _) (hbUU.alloc hbUU.size _) (cell_of_row _ _ 0 _ _ (0, 0) (heap_alloc_new _ _))).mono ?_
            rintro e wV ⟨gV, capV, rfl, -, hIV, hbV, hmV⟩
            go_wp2_with fail
            refine hK.out _ _ (hS.on hbV) (fun hS => ?_)
            clear hK K
            refine held_mono (S' := Keeps wV) (fun _ hk => (hS).trans hk) _ _ _ _ ?_
            have hS := Keeps.refl wV
            refine wpAnyH_take (i := 15) (v := ?_) (ops_at rfl) (by kernel_rfl) (by kernel_rfl) (by kernel_rfl) (fun _ _ _ h => h) (Or.inl ⟨by rfl, ?_⟩) hS ?_
            rotate_left
            · intro _ hk; have hcv0 := hk.convW hmV capV; first | (go_simp; done) | (go_simp; with_reducible rfl)
            simp only [Act.put, List.setIfInBounds_toArray, List.set_cons_zero, List.set_cons_succ]
            refine wpAnyH_take (i := 16) (v := ?_) (ops_at rfl) (by kernel_rfl) (by kernel_rfl) (by kernel_rfl) (fun _ _ _ h => h) (Or.inl ⟨by rfl, ?_⟩) hS ?_
            rotate_left
            · intro _ _; first | (go_simp; done) | (go_simp; with_reducible rfl)
            simp only [Act.put, List.setIfInBounds_toArray, List.set_cons_zero, List.set_cons_succ]
            refine wpAnyH_take (i := 17) (v := ?_) (ops_at rfl) (by kernel_rfl) (by kernel_rfl) (by kernel_rfl) (fun _ _ _ h => h) (Or.inl ⟨by rfl, ?_⟩) hS ?_
            rotate_left
            · intro _ _; first | (go_simp; done) | (go_simp; with_reducible rfl)
            simp only [Act.put, List.setIfInBounds_toArray, List.set_cons_zero, List.set_cons_succ]
            refine wpAnyH_take (i := 18) (v := ?_) (ops_at rfl) (by kernel_rfl) (by kernel_rfl) (by kernel_rfl) (fun _ _ _ h => h) (Or.inl ⟨by rfl, ?_⟩) hS ?_
            rotate_left
            · intro _ _; first | (go_simp; done) | (go_simp; with_reducible rfl)
            simp only [Act.put, List.setIfInBounds_toArray, List.set_cons_zero, List.set_cons_succ]
            refine wpAnyH_ready (rs := [19]) (by kernel_rfl) (by simp) (AllReadyH.cons (ops_at rfl) (fun K hK => ?_) AllReadyH.nil)
            go_simp
            go_at_call 13
            refine (inv_lives2 hIV).mono ?_
            rintro e wZ ⟨rfl, hIZ, hbZ⟩
            go_wp2_with fail
            refine hK.out _ _ (hS.on hbZ) (fun hS => ?_)
            clear hK K
            refine wpAnyH_take (i := 20) (v := ?_) (ops_at rfl) (by kernel_rfl) (by kernel_rfl) (by kernel_rfl) (fun _ _ _ h => h) (Or.inl ⟨by rfl, ?_⟩) hS ?_
            rotate_left
            · intro _ _; first | (go_simp; done) | (go_simp; with_reducible rfl)
            simp only [Act.put, List.setIfInBounds_toArray, List.set_cons_zero, List.set_cons_succ]
            refine wpAnyH_take (i := 21) (v := ?_) (ops_at rfl) (by kernel_rfl) (by kernel_rfl) (by kernel_rfl) (fun _ _ _ h => h) (Or.inl ⟨by rfl, ?_⟩) hS ?_
            rotate_left
            · intro _ _; first | (go_simp; done) | (go_simp; with_reducible rfl)
            simp only [Act.put, List.setIfInBounds_toArray, List.set_cons_zero, List.set_cons_succ]
            refine wpAnyH_done (by kernel_rfl) ?_ _
            refine NoPanic.normal ?_
            go_wp2_with fail
            go_ret
            exact ⟨rfl, hIZ.below⟩
          refine AllReadyH.cons (ops_at rfl) (fun K hK => ?_) ?_
          · skip
            go_simp
            refine hK.out _ _ (hS.alloc _) (fun hS => ?_)
            clear hK K
            have hb2 := hbTT.alloc hbTT.size (.cells #[.slice Y msg.length capY] 22)
            refine wpAnyH_ready (rs := [10]) (by kernel_rfl) (by simp) (AllReadyH.cons (ops_at rfl) (fun K hK => ?_) AllReadyH.nil)
            go_simp
            go_at_call 14
            refine (P2.out _ (hIT.alloc _) hb2).mono ?_
            rintro e wU ⟨gU, capU, rfl, -, hIU, hbU, hmU⟩
            go_wp2_with fail
            refine hK.out _ _ (hS.on hbU) (fun hS => ?_)
            clear hK K
            refine held_mono (S' := Keeps wU) (fun _ hk => (hS).trans hk) _ _ _ _ ?_
            have hS := Keeps.refl wU
            refine wpAnyH_take (i := 11) (v := ?_) (ops_at rfl) (by kernel_rfl) (by kernel_rfl) (by kernel_rfl) (fun _ _ _ h => h) (Or.inl ⟨by rfl, ?_⟩) hS ?_
            rotate_left
            · intro _ hk; have hcv0 := hk.convW hmU capU; first | (go_simp; done) | (go_simp; with_reducible rfl)
            simp only [Act.put, List.setIfInBounds_toArray, List.set_cons_zero, List.set_cons_succ]
            have hbUU := hb2.trans (hbU.mono hb2.size)
            clear hmU
            refine wpAnyH_ready (rs := [14]) (by kernel_rfl) (by simp) (AllReadyH.cons (ops_at rfl) (fun K hK => ?_) AllReadyH.nil)
            go_simp
            go_at_call 14
            refine (A2.out _ _ hIU hbUU ((hbU.cell (by simp)).trans (cell_of_row _ _ 0 _ _ (0, 0) (heap_alloc_new _ _)))).mono ?_
            rintro e wV ⟨gV, capV, rfl, -, hIV, hbV, hmV⟩
            go_wp2_with fail
            refine hK.out _ _ (hS.on hbV) (fun hS => ?_)
            clear hK K
            refine held_mono (S' := Keeps wV) (fun _ hk => (hS).trans hk) _ _ _ _ ?_
            have hS := Keeps.refl wV
            refine wpAnyH_take (i := 15) (v := ?_) (ops_at rfl) (by kernel_rfl) (by kernel_rfl) (by kernel_rfl) (fun _ _ _ h => h) (Or.inl ⟨by rfl, ?_⟩) hS ?_
            rotate_left
            · intro _ hk; have hcv0 := hk.convW hmV capV; first | (go_simp; done) | (go_simp; with_reducible rfl)
            simp only [Act.put, List.setIfInBounds_toArray, List.set_cons_zero, List.set_cons_succ]
            refine wpAnyH_take (i := 16) (v := ?_) (ops_at rfl) (by kernel_rfl) (by kernel_rfl) (by kernel_rfl) (fun _ _ _ h => h) (Or.inl ⟨by rfl, ?_⟩) hS ?_
            rotate_left
            · intro _ _; first | (go_simp; done) | (go_simp; with_reducible rfl)
            simp only [Act.put, List.setIfInBounds_toArray, List.set_cons_zero, List.set_cons_succ]
            refine wpAnyH_take (i := 17) (v := ?_) (ops_at rfl) (by kernel_rfl) (by kernel_rfl) (by kernel_rfl) (fun _ _ _ h => h) (Or.inl ⟨by rfl, ?_⟩) hS ?_
            rotate_left
            · intro _ _; first | (go_simp; done) | (go_simp; with_reducible rfl)
            simp only [Act.put, List.setIfInBounds_toArray, List.set_cons_zero, List.set_cons_succ]
            refine wpAnyH_take (i := 18) (v := ?_) (ops_at rfl) (by kernel_rfl) (by kernel_rfl) (by kernel_rfl) (fun _ _ _ h => h) (Or.inl ⟨by rfl, ?_⟩) hS ?_
            rotate_left
            · intro _ _; first | (go_simp; done) | (go_simp; with_reducible rfl)
            simp only [Act.put, List.setIfInBounds_toArray, List.set_cons_zero, List.set_cons_succ]
            refine wpAnyH_ready (rs := [19]) (by kernel_rfl) (by simp) (AllReadyH.cons (ops_at rfl) (fun K hK => ?_) AllReadyH.nil)
            go_simp
            go_at_call 13
            refine (inv_lives2 hIV).mono ?_
            rintro e wZ ⟨rfl, hIZ, hbZ⟩
            go_wp2_with fail
            refine hK.out _ _ (hS.on hbZ) (fun hS => ?_)
            clear hK K
            refine wpAnyH_take (i := 20) (v := ?_) (ops_at rfl) (by kernel_rfl) (by kernel_rfl) (by kernel_rfl) (fun _ _ _ h => h) (Or.inl ⟨by rfl, ?_⟩) hS ?_
            rotate_left
            · intro _ _; first | (go_simp; done) | (go_simp; with_reducible rfl)
            simp only [Act.put, List.setIfInBounds_toArray, List.set_cons_zero, List.set_cons_succ]
            refine wpAnyH_take (i := 21) (v := ?_) (ops_at rfl) (by kernel_rfl) (by kernel_rfl) (by kernel_rfl) (fun _ _ _ h => h) (Or.inl ⟨by rfl, ?_⟩) hS ?_
            rotate_left
            · intro _ _; first | (go_simp; done) | (go_simp; with_reducible rfl)
            simp only [Act.put, List.setIfInBounds_toArray, List.set_cons_zero, List.set_cons_succ]
            refine wpAnyH_done (by kernel_rfl) ?_ _
            refine NoPanic.normal ?_
            go_wp2_with fail
            go_ret
            exact ⟨rfl, hIZ.below⟩
          exact AllReadyH.nil
        refine AllReadyH.cons (ops_at rfl) (fun K hK => ?_) ?_
        · skip
          go_simp
          refine hK.out _ _ (hS.alloc _) (fun hS => ?_)
          clear hK K
          have hb1 := hb0.alloc hb0.size (.cells #[.slice Y msg.length capY] 22)
          refine wpAnyH_ready (rs := [1]) (by kernel_rfl) (by simp) (AllReadyH.cons (ops_at rfl) (fun K hK => ?_) AllReadyH.nil)
          go_simp
          go_at_call 11
          refine (P1.out _ (hI0.alloc _) hb1).mono ?_
          rintro e wS ⟨gS, capS, rfl, -, hIS, hbS, hmS⟩
          go_wp2_with fail
          refine hK.out _ _ (hS.on hbS) (fun hS => ?_)
          clear hK K
          refine held_mono (S' := Keeps wS) (fun _ hk => (hS).trans hk) _ _ _ _ ?_
          have hS := Keeps.refl wS
          refine wpAnyH_take (i := 2) (v := ?_) (ops_at rfl) (by kernel_rfl) (by kernel_rfl) (by kernel_rfl) (fun _ _ _ h => h) (Or.inl ⟨by rfl, ?_⟩) hS ?_
          rotate_left
          · intro _ hk; have hcv0 := hk.convD hmS capS; first | (go_simp; done) | (go_simp; with_reducible rfl)
          simp only [Act.put, List.setIfInBounds_toArray, List.set_cons_zero, List.set_cons_succ]
          have hbSS := hb1.trans (hbS.mono (by simp))
          clear hmS
          refine wpAnyH_ready (rs := [5]) (by kernel_rfl) (by simp) (AllReadyH.cons (ops_at rfl) (fun K hK => ?_) AllReadyH.nil)
          go_simp
          go_at_call 11
          refine (A1.out _ _ hIS hbSS ((hbS.cell (by simp)).trans (cell_of_row _ _ 0 _ _ (0, 0) (heap_alloc_new _ _)))).mono ?_
          rintro e wT ⟨gT, capT, rfl, -, hIT, hbT, hmT⟩
          go_wp2_with fail
          refine hK.out _ _ (hS.on hbT) (fun hS => ?_)
          clear hK K
          have hbTT := hbSS.trans (hbT.mono hbSS.size)
          clear hbT hbSS hIS hbS hb1
          refine held_mono (S' := Keeps wT) (fun _ hk => (hS).trans hk) _ _ _ _ ?_
          have hS := Keeps.refl wT
          refine wpAnyH_take (i := 6) (v := ?_) (ops_at rfl) (by kernel_rfl) (by kernel_rfl) (by kernel_rfl) (fun _ _ _ h => h) (Or.inl ⟨by rfl, ?_⟩) hS ?_
          rotate_left
          · intro _ hk; have hcv0 := hk.convD hmT capT; first | (go_simp; done) | (go_simp; with_reducible rfl)
          simp only [Act.put, List.setIfInBounds_toArray, List.set_cons_zero, List.set_cons_succ]
          refine wpAnyH_take (i := 7) (v := ?_) (ops_at rfl) (by kernel_rfl) (by kernel_rfl) (by kernel_rfl) (fun _ _ _ h => h) (Or.inl ⟨by rfl, ?_⟩) hS ?_
          rotate_left
          · intro _ _; first | (go_simp; done) | (go_simp; with_reducible rfl)
          simp only [Act.put, List.setIfInBounds_toArray, List.set_cons_zero, List.set_cons_succ]
          refine wpAnyH_take (i := 8) (v := ?_) (ops_at rfl) (by kernel_rfl) (by kernel_rfl) (by kernel_rfl) (fun _ _ _ h => h) (Or.inl ⟨by rfl, ?_⟩) hS ?_
          rotate_left
          · intro _ _; first | (go_simp; done) | (go_simp; with_reducible rfl)
          simp only [Act.put, List.setIfInBounds_toArray, List.set_cons_zero, List.set_cons_succ]
          refine wpAnyH_take (i := 9) (v := ?_) (ops_at rfl) (by kernel_rfl) (by kernel_rfl) (by kernel_rfl) (fun _ _ _ h => h) (Or.inl ⟨by rfl, ?_⟩) hS ?_
          rotate_left
          · intro _ _; first | (go_simp; done) | (go_simp; with_reducible rfl)
          simp only [Act.put, List.setIfInBounds_toArray, List.set_cons_zero, List.set_cons_succ]
          refine wpAnyH_take (i := 12) (v := ?_) (ops_at rfl) (by kernel_rfl) (by kernel_rfl) (by kernel_rfl) (fun _ _ _ h => h) (Or.inl ⟨by rfl, ?_⟩) hS ?_
          rotate_left
          · intro _ _; first | (go_simp; done) | (go_simp; with_reducible rfl)
          simp only [Act.put, List.setIfInBounds_toArray, List.set_cons_zero, List.set_cons_succ]
          clear hmT
          refine wpAnyH_ready (rs := [10, 13]) (by kernel_rfl) (by simp) ?_
          refine AllReadyH.cons (ops_at rfl) (fun K hK => ?_) ?_
          · skip
            go_simp
            go_at_call 14
            refine (P2.out _ hIT hbTT).mono ?_
            rintro e wU ⟨gU, capU, rfl, -, hIU, hbU, hmU⟩
            go_wp2_with fail
            refine hK.out _ _ (hS.on hbU) (fun hS => ?_)
            clear hK K
            refine held_mono (S' := Keeps wU) (fun _ hk => (hS).trans hk) _ _ _ _ ?_
            have hS := Keeps.refl wU
            refine wpAnyH_take (i := 11) (v := ?_) (ops_at rfl) (by kernel_rfl) (by kernel_rfl) (by kernel_rfl) (fun _ _ _ h => h) (Or.inl ⟨by rfl, ?_⟩) hS ?_
            rotate_left
            · intro _ hk; have hcv0 := hk.convW hmU capU; first | (go_simp; done) | (go_simp; with_reducible rfl)
            simp only [Act.put, List.setIfInBounds_toArray, List.set_cons_zero, List.set_cons_succ]
            have hbUU := hbTT.trans (hbU.mono hbTT.size)
            clear hmU hbU
            refine wpAnyH_ready (rs := [13]) (by kernel_rfl) (by simp) (AllReadyH.cons (ops_at rfl) (fun K hK => ?_) AllReadyH.nil)
            go_simp
            refine hK.out _ _ (hS.alloc _) (fun hS => ?_)
            clear hK K
            refine wpAnyH_ready (rs := [14]) (by kernel_rfl) (by simp) (AllReadyH.cons (ops_at rfl) (fun K hK => ?_) AllReadyH.nil)
            go_simp
            go_at_call 14
            refine (A2.out _ _ (hIU.alloc _) (hbUU.alloc hbUU.size _) (cell_of_row _ _ 0 _ _ (0, 0) (heap_alloc_new _ _))).mono ?_
            rintro e wV ⟨gV, capV, rfl, -, hIV, hbV, hmV⟩
            go_wp2_with fail
            refine hK.out _ _ (hS.on hbV) (fun hS => ?_)
            clear hK K
            refine held_mono (S' := Keeps wV) (fun _ hk => (hS).trans hk) _ _ _ _ ?_
            have hS := Keeps.refl wV
            refine wpAnyH_take (i := 15) (v := ?_) (ops_at rfl) (by kernel_rfl) (by kernel_rfl) (by kernel_rfl) (fun _ _ _ h => h) (Or.inl ⟨by rfl, ?_⟩) hS ?_
            rotate_left
            · intro _ hk; have hcv0 := hk.convW hmV capV; first | (go_simp; done) | (go_simp; with_reducible rfl)
            simp only [Act.put, List.setIfInBounds_toArray, List.set_cons_zero, List.set_cons_succ]
            refine wpAnyH_take (i := 16) (v := ?_) (ops_at rfl) (by kernel_rfl) (by kernel_rfl) (by kernel_rfl) (fun _ _ _ h => h) (Or.inl ⟨by rfl, ?_⟩) hS ?_
            rotate_left
            · intro _ _; first | (go_simp; done) | (go_simp; with_reducible rfl)
            simp only [Act.put, List.setIfInBounds_toArray, List.set_cons_zero, List.set_cons_succ]
            refine wpAnyH_take (i := 17) (v := ?_) (ops_at rfl) (by kernel_rfl) (by kernel_rfl) (by kernel_rfl) (fun _ _ _ h => h) (Or.inl ⟨by rfl, ?_⟩) hS ?_
            rotate_left
            · intro _ _; first | (go_simp; done) | (go_simp; with_reducible rfl)
            simp only [Act.put, List.setIfInBounds_toArray, List.set_cons_zero, List.set_cons_succ]
            refine wpAnyH_take (i := 18) (v := ?_) (ops_at rfl) (by kernel_rfl) (by kernel_rfl) (by kernel_rfl) (fun _ _ _ h => h) (Or.inl ⟨by rfl, ?_⟩) hS ?_
            rotate_left
            · intro _ _; first | (go_simp; done) | (go_simp; with_reducible rfl)
            simp only [Act.put, List.setIfInBounds_toArray, List.set_cons_zero, List.set_cons_succ]
            refine wpAnyH_ready (rs := [19]) (by kernel_rfl) (by simp) (AllReadyH.cons (ops_at rfl) (fun K hK => ?_) AllReadyH.nil)
            go_simp
            go_at_call 13
            refine (inv_lives2 hIV).mono ?_
            rintro e wZ ⟨rfl, hIZ, hbZ⟩
            go_wp2_with fail
            refine hK.out _ _ (hS.on hbZ) (fun hS => ?_)
            clear hK K
            refine wpAnyH_take (i := 20) (v := ?_) (ops_at rfl) (by kernel_rfl) (by kernel_rfl) (by kernel_rfl) (fun _ _ _ h => h) (Or.inl ⟨by rfl, ?_⟩) hS ?_
            rotate_left
            · intro _ _; first | (go_simp; done) | (go_simp; with_reducible rfl)
            simp only [Act.put, List.setIfInBounds_toArray, List.set_cons_zero, List.set_cons_succ]
            refine wpAnyH_take (i := 21) (v := ?_) (ops_at rfl) (by kernel_rfl) (by kernel_rfl) (by kernel_rfl) (fun _ _ _ h => h) (Or.inl ⟨by rfl, ?_⟩) hS ?_
            rotate_left
            · intro _ _; first | (go_simp; done) | (go_simp; with_reducible rfl)
            simp only [Act.put, List.setIfInBounds_toArray, List.set_cons_zero, List.set_cons_succ]
            refine wpAnyH_done (by kernel_rfl) ?_ _
            refine NoPanic.normal ?_
            go_wp2_with fail
            go_ret
            exact ⟨rfl, hIZ.below⟩
          refine AllReadyH.cons (ops_at rfl) (fun K hK => ?_) ?_
          · skip
            go_simp
            refine hK.out _ _ (hS.alloc _) (fun hS => ?_)
            clear hK K
            have hb2 := hbTT.alloc hbTT.size (.cells #[.slice Y msg.length capY] 22)
            refine wpAnyH_ready (rs := [10]) (by kernel_rfl) (by simp) (AllReadyH.cons (ops_at rfl) (fun K hK => ?_) AllReadyH.nil)
            go_simp
            go_at_call 14
            refine (P2.out _ (hIT.alloc _) hb2).mono ?_
            rintro e wU ⟨gU, capU, rfl, -, hIU, hbU, hmU⟩
            go_wp2_with fail
            refine hK.out _ _ (hS.on hbU) (fun hS => ?_)
            clear hK K
            refine held_mono (S' := Keeps wU) (fun _ hk => (hS).trans hk) _ _ _ _ ?_
            have hS := Keeps.refl wU
            refine wpAnyH_take (i := 11) (v := ?_) (ops_at rfl) (by kernel_rfl) (by kernel_rfl) (by kernel_rfl) (fun _ _ _ h => h) (Or.inl ⟨by rfl, ?_⟩) hS ?_
            rotate_left
            · intro _ hk; have hcv0 := hk.convW hmU capU; first | (go_simp; done) | (go_simp; with_reducible rfl)
            simp only [Act.put, List.setIfInBounds_toArray, List.set_cons_zero, List.set_cons_succ]
            have hbUU := hb2.trans (hbU.mono hb2.size)
            clear hmU
            refine wpAnyH_ready (rs := [14]) (by kernel_rfl) (by simp) (AllReadyH.cons (ops_at rfl) (fun K hK => ?_) AllReadyH.nil)
            go_simp
            go_at_call 14
            refine (A2.out _ _ hIU hbUU ((hbU.cell (by simp)).trans (cell_of_row _ _ 0 _ _ (0, 0) (heap_alloc_new _ _)))).mono ?_
            rintro e wV ⟨gV, capV, rfl, -, hIV, hbV, hmV⟩
            go_wp2_with fail
            refine hK.out _ _ (hS.on hbV) (fun hS => ?_)
            clear hK K
            refine held_mono (S' := Keeps wV) (fun _ hk => (hS).trans hk) _ _ _ _ ?_
            have hS := Keeps.refl wV
            refine wpAnyH_take (i := 15) (v := ?_) (ops_at rfl) (by kernel_rfl) (by kernel_rfl) (by kernel_rfl) (fun _ _ _ h => h) (Or.inl ⟨by rfl, ?_⟩) hS ?_
            rotate_left
            · intro _ hk; have hcv0 := hk.convW hmV capV; first | (go_simp; done) | (go_simp; with_reducible rfl)
            simp only [Act.put, List.setIfInBounds_toArray, List.set_cons_zero, List.set_cons_succ]
            refine wpAnyH_take (i := 16) (v := ?_) (ops_at rfl) (by kernel_rfl) (by kernel_rfl) (by kernel_rfl) (fun _ _ _ h => h) (Or.inl ⟨by rfl, ?_⟩) hS ?_
            rotate_left
            · intro _ _; first | (go_simp; done) | (go_simp; with_reducible rfl)
            simp only [Act.put, List.setIfInBounds_toArray, List.set_cons_zero, List.set_cons_succ]
            refine wpAnyH_take (i := 17) (v := ?_) (ops_at rfl) (by kernel_rfl) (by kernel_rfl) (by kernel_rfl) (fun _ _ _ h => h) (Or.inl ⟨by rfl, ?_⟩) hS ?_
            rotate_left
            · intro _ _; first | (go_simp; done) | (go_simp; with_reducible rfl)
            simp only [Act.put, List.setIfInBounds_toArray, List.set_cons_zero, List.set_cons_succ]
            refine wpAnyH_take (i := 18) (v := ?_) (ops_at rfl) (by kernel_rfl) (by kernel_rfl) (by kernel_rfl) (fun _ _ _ h => h) (Or.inl ⟨by rfl, ?_⟩) hS ?_
            rotate_left
            · intro _ _; first | (go_simp; done) | (go_simp; with_reducible rfl)
            simp only [Act.put, List.setIfInBounds_toArray, List.set_cons_zero, List.set_cons_succ]
            refine wpAnyH_ready (rs := [19]) (by kernel_rfl) (by simp) (AllReadyH.cons (ops_at rfl) (fun K hK => ?_) AllReadyH.nil)
            go_simp
            go_at_call 13
            refine (inv_lives2 hIV).mono ?_
            rintro e wZ ⟨rfl, hIZ, hbZ⟩
            go_wp2_with fail
            refine hK.out _ _ (hS.on hbZ) (fun hS => ?_)
            clear hK K
            refine wpAnyH_take (i := 20) (v := ?_) (ops_at rfl) (by kernel_rfl) (by kernel_rfl) (by kernel_rfl) (fun _ _ _ h => h) (Or.inl ⟨by rfl, ?_⟩) hS ?_
            rotate_left
            · intro _ _; first | (go_simp; done) | (go_simp; with_reducible rfl)
            simp only [Act.put, List.setIfInBounds_toArray, List.set_cons_zero, List.set_cons_succ]
            refine wpAnyH_take (i := 21) (v := ?_) (ops_at rfl) (by kernel_rfl) (by kernel_rfl) (by kernel_rfl) (fun _ _ _ h => h) (Or.inl ⟨by rfl, ?_⟩) hS ?_
            rotate_left
            · intro _ _; first | (go_simp; done) | (go_simp; with_reducible rfl)
            simp only [Act.put, List.setIfInBounds_toArray, List.set_cons_zero, List.set_cons_succ]
            refine wpAnyH_done (by kernel_rfl) ?_ _
            refine NoPanic.normal ?_
            go_wp2_with fail
            go_ret
            exact ⟨rfl, hIZ.below⟩
          exact AllReadyH.nil
        exact AllReadyH.nil
end Go.Proofs.YtliejejfbackbaaDoor
