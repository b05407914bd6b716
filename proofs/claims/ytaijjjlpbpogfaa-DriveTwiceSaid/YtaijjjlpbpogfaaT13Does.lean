/- A deed, asked of both drives. -/
import Derived.Test.YtaijjjlpbpogfaaT13Few
namespace Go.Proofs.Ytaijjjlpbpogfaa
open Go.RowKit

/-- Something that is asked of a drive. -/
structure Ask where
  kind : Int
  n : Int
  a : ByteArray
  b : ByteArray
  keep : List Int
/-- What a drive answers, and has then. -/
def ansD (D : Dr) (x : Ask) : Int × Dr :=
  if x.kind = 0 then createD D (few70 x.a) else
  if x.kind = 1 then appendD D (few70 x.a) (few70 x.b) else
  if x.kind = 2 then syncD D (few70 x.a) else
  if x.kind = 3 then renameD D (few70 x.a) (few70 x.b) else
  if x.kind = 4 then removeD D (few70 x.a) else
  if x.kind = 5 then (0, armD D x.n) else
  if x.kind = 6 then (0, upD D x.keep) else
  if x.kind = 7 then quotaD D x.n else (0, D)
/-- A deed as it came in. -/
structure AskAt (w0 : World) (x : Ask) (v : Value) : Prop where
  form : ∃ A ka kc, v = .agg #[.int .i64 x.kind, .int .i64 x.n, .string x.a, .string x.b, .slice A ka kc] ∧ IntsAt w0 A x.keep ∧ ka = x.keep.length ∧ ka ≤ kc ∧ kc ≤ maxLen
  num : M63 x.n
  kinds : M63 x.kind
  asz : x.a.size ≤ 9223372036854775807
  bsz : x.b.size ≤ 9223372036854775807
theorem all_ans {D : Dr} {n : Nat} {w0 : World} {x : Ask} {v : Value} (hx : AskAt w0 x v) (h : AllD D n) : AllD (ansD D x).2 (n + 1) := by
  unfold ansD
  split
  · exact all_create _ h
  split
  · exact all_append _ _ h (few70_size _)
  split
  · exact all_sync _ h
  split
  · exact all_rename _ _ h
  split
  · exact all_remove _ h
  split
  · exact all_more (all_arm _ h hx.num.2) (by omega)
  split
  · exact all_more (all_up _ h) (by omega)
  split
  · exact all_more (all_quota _ h) (by omega)
  · exact all_more h (by omega)
theorem box_cells (a b c d e : Value) (t : TypeId) (q : Nat) (w : World) (h : w.heap[q]? = some (.cells #[a, b, c, d, e] t)) : w.cell? ⟨q, 0, none⟩ = some a ∧ w.cell? ⟨q, 1, none⟩ = some b ∧ w.cell? ⟨q, 2, none⟩ = some c ∧ w.cell? ⟨q, 3, none⟩ = some d ∧ w.cell? ⟨q, 4, none⟩ = some e := by
  refine ⟨?_, ?_, ?_, ?_, ?_⟩ <;> simp [World.cell?, h]
set_option maxHeartbeats 4000000 in
set_option maxRecDepth 100000 in
theorem does_any {w0 W : World} {X : List (Nat × Obj)} {rb pb n m : Nat} {R P : Dr} {x : Ask} {v : Value} (hx : AskAt w0 x v) (h : HasD w0 W X rb R pb P) (hr : AllD R n) (hp : AllD P m) (hn : n ≤ 1000) (hm : m ≤ 1000) :
    Calls Try.prog 13 #[.pointer (some ⟨pb, 0, none⟩), .pointer (some ⟨rb, 0, none⟩), v] W (fun e w' => e = .returned (.bool (decide ((ansD P x).1 = (ansD R x).1))) ∧ HasD w0 w' X rb (ansD R x).2 pb (ansD P x).2) := by
  have GR := Lib.hid (hr.go hn)
  have GP := Lib.hid (hp.go hm)
  clear hr hp hn hm
  obtain ⟨⟨A, ka, kc, rfl, hK, hka, hkc, hkm⟩, hxn, hxk, hxa, hxb⟩ := hx
  obtain ⟨kind, num, a, b, keep⟩ := x
  have HK := Lib.hid (And.intro hK (And.intro hka (And.intro hkc hkm)))
  have HN := Lib.hid hxn
  have HA := Lib.hid (fun w => few13_any a w hxa)
  have HB := Lib.hid (fun w => few13_any b w hxb)
  have HH := Lib.hid h
  clear hK hka hkc hkm hxn hxa hxb h
  go_enter Try.func13, Try.ntmps13
  go_upto_region 1 with fail
  have H1 := Lib.hid (HH.out.push (.cells #[.int .i64 kind, .int .i64 num, .string a, .string b, .slice A ka kc] 31))
  have HO := Lib.hid (box_cells (.int .i64 kind) (.int .i64 num) (.string a) (.string b) (.slice A ka kc) 31 W.heap.size)
  generalize W.alloc (.cells #[.int .i64 kind, .int .i64 num, .string a, .string b, .slice A ka kc] 31) = W1 at *
  generalize W.heap.size = q at *
  generalize Obj.cells #[.int .i64 kind, .int .i64 num, .string a, .string b, .slice A ka kc] 31 = o at *
  obtain ⟨c0, c1, c2, c3, c4⟩ := HO.out _ (H1.out.stands (List.mem_cons_self ..))
  clear HH
  go_upto_region 2 with (go_at_call 16; refine (HA.out _).mono ?_; rintro e wq ⟨rfl, hw⟩; rw [hw]; clear hw wq)
  go_upto_region 3 with (go_at_call 16; refine (HB.out _).mono ?_; rintro e wq ⟨rfl, hw⟩; rw [hw]; clear hw wq)
  have hfa : (few70 a).size ≤ 1000 := Nat.le_trans (few70_size a) (by decide)
  have hfb : (few70 b).size ≤ 1000 := Nat.le_trans (few70_size b) (by decide)
  rcases (by omega : kind = 0 ∨ kind = 1 ∨ kind = 2 ∨ kind = 3 ∨ kind = 4 ∨ kind = 5 ∨ kind = 6 ∨ kind = 7 ∨ (kind ≠ 0 ∧ kind ≠ 1 ∧ kind ≠ 2 ∧ kind ≠ 3 ∧ kind ≠ 4 ∧ kind ≠ 5 ∧ kind ≠ 6 ∧ kind ≠ 7)) with rfl | rfl | rfl | rfl | rfl | rfl | rfl | rfl | hk
  · have eA : ∀ D, ansD D ⟨0, num, a, b, keep⟩ = createD D (few70 a) := fun D => by simp [ansD]
    generalize few70 a = fa at *
    generalize few70 b = fb at *
    go_wp2_with first
      | (go_at_call 17; refine (hp_create H1.out fa GP.out hfa).mono ?_; rintro e w2 ⟨rfl, h2⟩; have H2 := Lib.hid h2; clear h2)
      | (go_at_call 29; refine (hr_create H2.out fa GR.out hfa).mono ?_; rintro e w3 ⟨rfl, h3⟩; have H3 := Lib.hid h3; clear h3)
    go_ret
    rw [eA, eA]
    exact ⟨by first | rfl | simp [*], H3.out.drop fun p hp => List.mem_cons_of_mem _ hp⟩
  · have eA : ∀ D, ansD D ⟨1, num, a, b, keep⟩ = appendD D (few70 a) (few70 b) := fun D => by simp [ansD]
    generalize few70 a = fa at *
    generalize few70 b = fb at *
    obtain ⟨cB, oB, hcv, hc1, hc2, hc3⟩ := bytes13 fb hfb W1
    have HBI := Lib.hid (bytes13_in hc1 hc2 hc3)
    have HB1 := Lib.hid (H1.out.bytes oB)
    clear hc1 hc2 hc3 H1
    generalize W1.drew.alloc oB = WB at *
    generalize W1.heap.size = qB at *
    have HAp := Lib.hid (hp_append HB1.out fa _ _ cB (txt fb) GP.out HBI.out (fun a ha => ⟨oB, by cases ha; exact List.mem_cons_self ..⟩) (txt_length fb).symm hfb hfa)
    rw [str_txt] at HAp
    go_wp2_with first
      | (go_at_call 18; refine HAp.out.mono ?_; rintro e w2 ⟨rfl, h2⟩; have H2 := Lib.hid h2; clear h2)
      | (go_at_call 30; refine (hr_append H2.out fa fb GR.out (Nat.le_trans hfb (by decide))).mono ?_; rintro e w3 ⟨rfl, h3⟩; have H3 := Lib.hid h3; clear h3)
    go_ret
    rw [eA, eA]
    exact ⟨by first | rfl | simp [*], H3.out.drop fun p hp => by simp [hp]⟩
  · have eA : ∀ D, ansD D ⟨2, num, a, b, keep⟩ = syncD D (few70 a) := fun D => by simp [ansD]
    generalize few70 a = fa at *
    generalize few70 b = fb at *
    go_wp2_with first
      | (go_at_call 19; refine (hp_sync H1.out fa GP.out hfa).mono ?_; rintro e w2 ⟨rfl, h2⟩; have H2 := Lib.hid h2; clear h2)
      | (go_at_call 31; refine (hr_ends H2.out fa false GR.out).mono ?_; rintro e w3 ⟨rfl, h3⟩; have H3 := Lib.hid h3; clear h3)
    go_ret
    rw [eA, eA]
    exact ⟨by first | rfl | simp [*], H3.out.drop fun p hp => by simp [hp]⟩
  · have eA : ∀ D, ansD D ⟨3, num, a, b, keep⟩ = renameD D (few70 a) (few70 b) := fun D => by simp [ansD]
    generalize few70 a = fa at *
    generalize few70 b = fb at *
    go_wp2_with first
      | (go_at_call 32; refine (hp_rename H1.out fa fb GP.out hfa hfb).mono ?_; rintro e w2 ⟨rfl, h2⟩; have H2 := Lib.hid h2; clear h2)
      | (go_at_call 33; refine (hr_rename H2.out fa fb GR.out hfb).mono ?_; rintro e w3 ⟨rfl, h3⟩; have H3 := Lib.hid h3; clear h3)
    go_ret
    rw [eA, eA]
    exact ⟨by first | rfl | simp [*], H3.out.drop fun p hp => by simp [hp]⟩
  · have eA : ∀ D, ansD D ⟨4, num, a, b, keep⟩ = removeD D (few70 a) := fun D => by simp [ansD]
    generalize few70 a = fa at *
    generalize few70 b = fb at *
    go_wp2_with first
      | (go_at_call 34; refine (hp_remove H1.out fa GP.out hfa).mono ?_; rintro e w2 ⟨rfl, h2⟩; have H2 := Lib.hid h2; clear h2)
      | (go_at_call 31; refine (hr_ends H2.out fa true GR.out).mono ?_; rintro e w3 ⟨rfl, h3⟩; have H3 := Lib.hid h3; clear h3)
    go_ret
    rw [eA, eA]
    exact ⟨by first | rfl | simp [*], H3.out.drop fun p hp => by simp [hp]⟩
  · have eA : ∀ D, ansD D ⟨5, num, a, b, keep⟩ = (0, armD D num) := fun D => by simp [ansD]
    generalize few70 a = fa at *
    generalize few70 b = fb at *
    go_wp2_with first
      | (go_at_call 27; refine (hp_arm H1.out num GP.out HN.out).mono ?_; rintro e w2 ⟨rfl, h2⟩; have H2 := Lib.hid h2; clear h2; obtain ⟨z0, z1, z2, z3, z4⟩ := HO.out _ (H2.out.stands (List.mem_cons_self ..)))
      | (go_at_call 35; refine (hr_arm H2.out num).mono ?_; rintro e w3 ⟨rfl, h3⟩; have H3 := Lib.hid h3; clear h3)
    go_ret
    rw [eA, eA]
    exact ⟨by first | rfl | simp [*], H3.out.drop fun p hp => by simp [hp]⟩
  · have eA : ∀ D, ansD D ⟨6, num, a, b, keep⟩ = (0, upD D keep) := fun D => by simp [ansD]
    generalize few70 a = fa at *
    generalize few70 b = fb at *
    go_wp2_with first
      | (go_at_call 21; refine (hp_up H1.out A ka kc keep GP.out HK.out.1 HK.out.2.1 HK.out.2.2.1 HK.out.2.2.2).mono ?_; rintro e w2 ⟨rfl, h2⟩; have H2 := Lib.hid h2; clear h2; obtain ⟨z0, z1, z2, z3, z4⟩ := HO.out _ (H2.out.stands (List.mem_cons_self ..)))
      | (go_at_call 26; refine (hr_up H2.out A ka kc keep GR.out HK.out.1 HK.out.2.1 HK.out.2.2.1 HK.out.2.2.2).mono ?_; rintro e w3 ⟨rfl, h3⟩; have H3 := Lib.hid h3; clear h3)
    go_ret
    rw [eA, eA]
    exact ⟨by first | rfl | simp [*], H3.out.drop fun p hp => by simp [hp]⟩
  · have eA : ∀ D, ansD D ⟨7, num, a, b, keep⟩ = quotaD D num := fun D => by simp [ansD]
    generalize few70 a = fa at *
    generalize few70 b = fb at *
    go_upto_region 21 with fail
    refine wp_region_noPanic ?_
    refine wp_region_held_drew (S := fun W' => W'.cell? ⟨q, 1, none⟩ = some (.int .i64 num)) (by kernel_rfl) c1 (fun hS => ?_)
    have H1d := Lib.hid (H1.out.on (Below.refl W1.heap.size W1).drew)
    clear H1 c0 c1 c2 c3 c4
    generalize W1.drew = W2 at *
    refine wpAnyH_take (i := 0) (v := ?_) (ops_at rfl) (by kernel_rfl) (by kernel_rfl) (by kernel_rfl) (fun _ _ _ h => h) (Or.inl ⟨by rfl, ?_⟩) hS ?_
    rotate_left
    · intro _ _; first | (go_simp; done) | (go_simp; with_reducible rfl)
    simp only [Act.put, List.setIfInBounds_toArray, List.set_cons_zero, List.set_cons_succ]
    refine wpAnyH_take (i := 1) (v := ?_) (ops_at rfl) (by kernel_rfl) (by kernel_rfl) (by kernel_rfl) (fun _ _ _ h => h) (Or.inl ⟨by rfl, ?_⟩) hS ?_
    rotate_left
    · intro _ _; first | (go_simp; done) | (go_simp; with_reducible rfl)
    simp only [Act.put, List.setIfInBounds_toArray, List.set_cons_zero, List.set_cons_succ]
    refine wpAnyH_take (i := 2) (v := ?_) (ops_at rfl) (by kernel_rfl) (by kernel_rfl) (by kernel_rfl) (fun _ _ _ h => h) (Or.inl ⟨by rfl, ?_⟩) hS ?_
    rotate_left
    · intro _ hk; have hf0 := hk; first | (go_simp; done) | (go_simp; with_reducible rfl)
    simp only [Act.put, List.setIfInBounds_toArray, List.set_cons_zero, List.set_cons_succ]
    refine wpAnyH_take (i := 4) (v := ?_) (ops_at rfl) (by kernel_rfl) (by kernel_rfl) (by kernel_rfl) (fun _ _ _ h => h) (Or.inl ⟨by rfl, ?_⟩) hS ?_
    rotate_left
    · intro _ _; first | (go_simp; done) | (go_simp; with_reducible rfl)
    simp only [Act.put, List.setIfInBounds_toArray, List.set_cons_zero, List.set_cons_succ]
    refine wpAnyH_take (i := 5) (v := ?_) (ops_at rfl) (by kernel_rfl) (by kernel_rfl) (by kernel_rfl) (fun _ _ _ h => h) (Or.inl ⟨by rfl, ?_⟩) hS ?_
    rotate_left
    · intro _ _; first | (go_simp; done) | (go_simp; with_reducible rfl)
    simp only [Act.put, List.setIfInBounds_toArray, List.set_cons_zero, List.set_cons_succ]
    refine wpAnyH_take (i := 6) (v := ?_) (ops_at rfl) (by kernel_rfl) (by kernel_rfl) (by kernel_rfl) (fun _ _ _ h => h) (Or.inl ⟨by rfl, ?_⟩) hS ?_
    rotate_left
    · intro _ hk; have hf0 := hk; first | (go_simp; done) | (go_simp; with_reducible rfl)
    simp only [Act.put, List.setIfInBounds_toArray, List.set_cons_zero, List.set_cons_succ]
    refine wpAnyH_ready (rs := [3]) (by kernel_rfl) (by simp) (AllReadyH.cons (ops_at rfl) (fun K hK => ?_) AllReadyH.nil)
    go_simp
    go_at_call 36
    refine (hp_quota H1d.out num GP.out HN.out).mono ?_
    rintro e w2 ⟨rfl, h2⟩
    have H2 := Lib.hid h2
    clear h2
    obtain ⟨z0, z1, z2, z3, z4⟩ := HO.out _ (H2.out.stands (List.mem_cons_self ..))
    go_wp2_with fail
    refine hK.out _ _ z1 (fun hS => ?_)
    clear hK K
    refine wpAnyH_ready (rs := [7]) (by kernel_rfl) (by simp) (AllReadyH.cons (ops_at rfl) (fun K hK => ?_) AllReadyH.nil)
    go_simp
    go_at_call 37
    refine (hr_quota H2.out num).mono ?_
    rintro e w3 ⟨rfl, h3⟩
    have H3 := Lib.hid h3
    clear h3
    obtain ⟨y0, y1, y2, y3, y4⟩ := HO.out _ (H3.out.stands (List.mem_cons_self ..))
    go_wp2_with fail
    refine hK.out _ _ y1 (fun hS => ?_)
    clear hK K
    refine wpAnyH_take (i := 8) (v := ?_) (ops_at rfl) (by kernel_rfl) (by kernel_rfl) (by kernel_rfl) (fun _ _ _ h => h) (Or.inl ⟨by rfl, ?_⟩) hS ?_
    rotate_left
    · intro _ _; first | (go_simp; done) | (go_simp; with_reducible rfl)
    simp only [Act.put, List.setIfInBounds_toArray, List.set_cons_zero, List.set_cons_succ]
    refine wpAnyH_take (i := 9) (v := ?_) (ops_at rfl) (by kernel_rfl) (by kernel_rfl) (by kernel_rfl) (fun _ _ _ h => h) (Or.inl ⟨by rfl, ?_⟩) hS ?_
    rotate_left
    · intro _ _; first | (go_simp; done) | (go_simp; with_reducible rfl)
    simp only [Act.put, List.setIfInBounds_toArray, List.set_cons_zero, List.set_cons_succ]
    refine wpAnyH_done (by kernel_rfl) ?_ _
    refine NoPanic.normal ?_
    go_wp2_with fail
    go_ret
    rw [eA, eA]
    exact ⟨by first | rfl | simp [*], H3.out.drop fun p hp => by simp [hp]⟩
  · obtain ⟨k0, k1, k2, k3, k4, k5, k6, k7⟩ := hk
    have eA : ∀ D, ansD D ⟨kind, num, a, b, keep⟩ = (0, D) := fun D => by simp [ansD, k0, k1, k2, k3, k4, k5, k6, k7]
    have e0 : (kind == 0) = false := by simpa using k0
    have e1 : (kind == 1) = false := by simpa using k1
    have e2 : (kind == 2) = false := by simpa using k2
    have e3 : (kind == 3) = false := by simpa using k3
    have e4 : (kind == 4) = false := by simpa using k4
    have e5 : (kind == 5) = false := by simpa using k5
    have e6 : (kind == 6) = false := by simpa using k6
    have e7 : (kind == 7) = false := by simpa using k7
    go_wp2_with fail
    go_ret
    rw [eA, eA]
    exact ⟨by first | rfl | simp [*], H1.out.drop fun p hp => by simp [hp]⟩
end Go.Proofs.Ytaijjjlpbpogfaa
