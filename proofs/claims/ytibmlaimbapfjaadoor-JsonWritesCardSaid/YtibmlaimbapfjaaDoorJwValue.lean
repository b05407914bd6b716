/- The writer: a value, of whatever kind. -/
import Derived.Test.YtibmlaimbapfjaaDoorJwMembers
namespace Go.Proofs.YtibmlaimbapfjaaDoor
open Go.RowKit

theorem sumW_kids : ∀ ks : List Js, sumW wtJ ks ≤ wtL ks
  | [] => Nat.zero_le _
  | J :: ks => by have := sumW_kids ks; rw [sumW, wtL]; omega
theorem wtN_len : ∀ ns : List ByteArray, 1000 * ns.length ≤ wtN ns
  | [] => Nat.zero_le _
  | s :: ns => by have := wtN_len ns; rw [List.length_cons, wtN]; omega
theorem wtL_len : ∀ ks : List Js, 1000 * ks.length ≤ wtL ks
  | [] => Nat.zero_le _
  | J :: ks => by have := wtL_len ks; rw [List.length_cons, wtL]; omega
theorem kids_kept {W W' : World} {B : Nat} {K : Option Addr} {ks : List Js} (h : KidsB W (· < B) K 0 ks) (hb : Below B W W') : KidsB W' (· < B) K 0 ks := KidsB.mk ks 0 fun j kid hj => by
  obtain ⟨ad, v, e, hb1, hf, hj2⟩ := KidsB.get ks 0 j kid h hj
  exact ⟨ad, v, e, hb1, hf.same (by rw [addr_add_block]; exact hb.block _ hb1), hj2.kept fun g hg => ⟨hg, hb.block g hg⟩⟩
theorem OutP.up {B b : Nat} {q : Int} {bs : List UInt8} {R R' : Option (List UInt8)} {w0 w w' : World} {N N' : Nat} {e : Ending} (h : OutP B b q bs R w N e w') (hR : R' = R) (hk : KB B b w0 w) (hN : N ≤ N') : OutP B b q bs R' w0 N' e w' := by
  subst hR
  obtain ⟨h1, h2⟩ := h
  refine ⟨hk.trans h1, ?_⟩
  cases R' with
  | none => exact h2
  | some u => exact ⟨h2.1, by omega, h2.2.2⟩
theorem OutP.says {B b : Nat} {q : Int} {bs : List UInt8} {R : Option (List UInt8)} {w w' : World} {N : Nat} {e : Ending} (h : OutP B b q bs R w N e w') : ∃ ok, e = .returned (.bool ok) := by
  obtain ⟨-, h2⟩ := h
  cases R with
  | none => exact ⟨_, h2.1⟩
  | some u => exact ⟨_, h2.1⟩
theorem bareB_kind {k : Int} {ts nl kl : Nat} {n : Int} (h : bareB k ts n nl kl = true) : k = 1 ∨ k = 2 ∨ k = 3 ∨ k = 4 := by
  unfold bareB at h
  split at h
  · exact .inl ‹_›
  · split at h
    · exact .inr (.inl ‹_›)
    · split at h
      · exact .inr (.inr (.inl ‹_›))
      · split at h
        · exact .inr (.inr (.inr ‹_›))
        · cases h
set_option maxHeartbeats 4000000 in
set_option maxRecDepth 100000 in
theorem wstep_any (B b : Nat) (q : Int) (bs : List UInt8) (sub : Option (Js → Option (List UInt8))) (h0 : 0 ≤ q) (h5 : q ≤ 5) (hsub : sub = none ↔ q = 5) (HO : ∀ one, sub = some one → ValueC B b (q + 1) one)
    (x : Js) (k : Int) (t : ByteArray) (n : Int) (A : Option Addr) (nl cA : Nat) (K : Option Addr) (kl cK : Nat) (w : World) (hj : JsB w (· < B) x (.agg #[.int .i64 k, .string t, .int .i64 n, .slice A nl cA, .slice K kl cK]))
    (h : Bl1 B b q bs w) (ht : Tabs w) (h8 : 8 ≤ B) (hB : B ≤ w.heap.size) (hlen : bs.length + wtJ x ≤ 1000000000) :
    Calls Tryd.prog 18 #[.pointer (some ⟨b, 0, none⟩), .agg #[.int .i64 k, .string t, .int .i64 n, .slice A nl cA, .slice K kl cK]] w (OutP B b q bs (stepO sub x) w (wtJ x)) := by
  have hmf : ∀ (fn : Fn) (first cap : Array Value) (w : World), (Instr.makeFunc fn first cap).run Tryd.prog w = .ok (.func fn first cap) w := fun _ _ _ _ => rfl
  obtain ⟨k', t', n', ns, ks⟩ := x
  rw [JsB] at hj
  obtain ⟨A', cA', K', cK', e, hk, hn, hcap, hA, hK⟩ := hj
  cases e
  have hNe : wtJ (.mk k t n ns ks) = 2 * t.size + 40 + wtN ns + wtL ks := by rw [wtJ]
  have hl1 := wtN_len ns
  have hl2 := wtL_len ks
  have hsk := sumW_kids ks
  have HA := Lib.hid (And.intro hA (And.intro hK (And.intro hcap (And.intro ht (And.intro hsub HO)))))
  have HN := Lib.hid hn
  clear hA hK hcap ht hsub HO hn
  obtain ⟨R, hR⟩ : ∃ R, R = stepO sub (.mk k t n ns ks) := ⟨_, rfl⟩
  rw [← hR]
  obtain ⟨N, hN⟩ : ∃ N, N = wtJ (.mk k t n ns ks) := ⟨_, rfl⟩
  rw [← hN] at hlen hNe ⊢
  obtain ⟨nl, hnl⟩ : ∃ m, m = ns.length := ⟨_, rfl⟩
  obtain ⟨kl, hkl⟩ : ∃ m, m = ks.length := ⟨_, rfl⟩
  have hnm : nl ≤ 1000000 := by omega
  have hkm : kl ≤ 1000000 := by omega
  rw [← hnl, ← hkl]
  obtain ⟨w1, hw1⟩ : ∃ W, W = w.alloc (.cells #[.int .i64 k, .string t, .int .i64 n, .slice A nl cA, .slice K kl cK] 25) := ⟨_, rfl⟩
  have b1 : Below w.heap.size w w1 := hw1 ▸ (Below.refl _ _).alloc (Nat.le_refl _) _
  have hs1 : w1.heap.size = w.heap.size + 1 := by rw [hw1]; simp
  have HV1 := Lib.hid (show w1.heap[w.heap.size]? = some (.cells #[.int .i64 k, .string t, .int .i64 n, .slice A nl cA, .slice K kl cK] 25 (0, 0)) from hw1 ▸ heap_alloc_new _ _)
  have H1 := Lib.hid (And.intro (h.kept b1) (KB.of (b := b) b1 hB))
  have hbw := h.lt
  have HW1 := Lib.hid hw1
  have HR := Lib.hid hR
  have HNL := Lib.hid (And.intro hnl hkl)
  have HNN := Lib.hid (And.intro hNe (And.intro hl1 (And.intro hl2 (And.intro hsk hlen))))
  clear hw1 h b1 hR hN hnl hkl hNe hl1 hl2 hsk hlen
  have c0 : w1.cell? ⟨w.heap.size, 0, none⟩ = some (.int .i64 k) := cells_of HV1.out 0 (by show _ < 5; decide)
  have c1 : w1.cell? ⟨w.heap.size, 1, none⟩ = some (.string t) := cells_of HV1.out 1 (by show _ < 5; decide)
  have c2 : w1.cell? ⟨w.heap.size, 2, none⟩ = some (.int .i64 n) := cells_of HV1.out 2 (by show _ < 5; decide)
  have c3 : w1.cell? ⟨w.heap.size, 3, none⟩ = some (.slice A nl cA) := cells_of HV1.out 3 (by show _ < 5; decide)
  have c4 : w1.cell? ⟨w.heap.size, 4, none⟩ = some (.slice K kl cK) := cells_of HV1.out 4 (by show _ < 5; decide)
  go_enter Tryd.func18, Tryd.ntmps18
  go_wp2_with fail
  rw [← HW1.out]
  go_at_call 28
  refine (bare_any k t n A nl cA K kl cK w1).mono ?_
  rintro e2 w2 ⟨rfl, hb2⟩
  have hs2 := hb2.size
  have H2 := Lib.hid (And.intro (H1.out.1.kept hb2) (H1.out.2.trans (KB.of (B := B) hb2 (by omega))))
  have HV2 := Lib.hid ((hb2.block _ (by omega)).trans HV1.out)
  have hbl2 := H1.out.1.lt
  clear H1 HV1 HW1 hb2 c0 c1 c2 c3 c4
  have HB2 := Lib.hid (H2.out.2.1)
  have HA2 := Lib.hid (show StrsB w2 (· < B) A ns ∧ KidsB w2 (· < B) K 0 ks ∧ Tabs w2 from ⟨HA.out.1.kept fun g hg => ⟨hg, HB2.out.block g hg⟩, kids_kept HA.out.2.1 HB2.out, HA.out.2.2.2.1.on HB2.out h8⟩)
  have hB2 : B ≤ w2.heap.size := by omega
  cases hbr : bareB k t.size n nl kl with
  | false =>
    have HX := Lib.hid (show OutP B b q bs R w N (.returned (.bool false)) w2 from out_no (by rw [HR.out, stepO, if_pos (by rw [← HNL.out.1, ← HNL.out.2]; exact hbr)]) H2.out.2 H2.out.1)
    clear hbr
    go_wp2_with fail
    go_ret
    exact HX.out
  | true =>
    have HR := Lib.hid (show R = if k = 1 then textO t.data.toList else if k = 2 then numO n else if k = 3 then putO sub 91 93 ks else if ns.length = ks.length ∧ ns.Nodup then putO (sub.map memO) 123 125 (ns.zip ks) else none by
      rw [HR.out, stepO, if_neg (by rw [← HNL.out.1, ← HNL.out.2, hbr]; simp)])
    have c0 : w2.cell? ⟨w.heap.size, 0, none⟩ = some (.int .i64 k) := cells_of HV2.out 0 (by show _ < 5; decide)
    have c1 : w2.cell? ⟨w.heap.size, 1, none⟩ = some (.string t) := cells_of HV2.out 1 (by show _ < 5; decide)
    have c2 : w2.cell? ⟨w.heap.size, 2, none⟩ = some (.int .i64 n) := cells_of HV2.out 2 (by show _ < 5; decide)
    have c3 : w2.cell? ⟨w.heap.size, 3, none⟩ = some (.slice A nl cA) := cells_of HV2.out 3 (by show _ < 5; decide)
    have c4 : w2.cell? ⟨w.heap.size, 4, none⟩ = some (.slice K kl cK) := cells_of HV2.out 4 (by show _ < 5; decide)
    have hkk := bareB_kind hbr
    clear hbr
    rcases hkk with rfl | rfl | rfl | rfl
    · have HC := Lib.hid (wtext_any B b q bs t w2 H2.out.1 hB2 (by have := HNN.out; omega))
      go_wp2_with fail
      go_at_call 29
      refine HC.out.mono ?_
      rintro e3 w3 h3
      have HX := Lib.hid (h3.up (R' := R) (N' := N) (by rw [HR.out]; rfl) H2.out.2 (by have := HNN.out; omega))
      obtain ⟨ok, rfl⟩ := h3.says
      clear h3
      go_wp2_with fail
      go_ret
      exact HX.out
    · have HC := Lib.hid (wnumber_any B b q bs n w2 H2.out.1 HA2.out.2.2 HN.out hB2 (by have := HNN.out; omega))
      go_wp2_with fail
      go_at_call 30
      refine HC.out.mono ?_
      rintro e3 w3 h3
      have HX := Lib.hid (h3.up (R' := R) (N' := N) (by rw [HR.out]; rfl) H2.out.2 (by have := HNN.out; omega))
      obtain ⟨ok, rfl⟩ := h3.says
      clear h3
      go_wp2_with fail
      go_ret
      exact HX.out
    · have HC := Lib.hid (putJ_any B b q bs 91 93 sub wtJ h0 h5 HA.out.2.2.2.2.1 (fun one ho => HA.out.2.2.2.2.2 one ho) ks K kl cK w2 HNL.out.2 (fun W hW j x hx => by
        obtain ⟨ad, kk, tt, mm, AA, nl, cA, KK, kl, cK, r0, -, r2, r3⟩ := kid_at (kids_kept HA2.out.2.1 hW.1) hx
        exact ⟨ad, kk, tt, mm, AA, nl, cA, KK, kl, cK, r0, r2, r3⟩) H2.out.1 HA2.out.2.2 h8 hB2 (by have := HNN.out; omega) (by omega))
      go_wp2_with fail
      go_at_call 31
      refine HC.out.mono ?_
      rintro e3 w3 h3
      have HX := Lib.hid (h3.up (R' := R) (N' := N) (by rw [HR.out]; rfl) H2.out.2 (by have := HNN.out; omega))
      obtain ⟨ok, rfl⟩ := h3.says
      clear h3
      go_wp2_with fail
      go_ret
      exact HX.out
    · have HC := Lib.hid (wmembers_any B b q bs sub h0 h5 HA.out.2.2.2.2.1 HA.out.2.2.2.2.2 4 t n A nl cA K kl cK ns ks w2 HNL.out.1 HNL.out.2 HA2.out.1 HA2.out.2.1 HA.out.2.2.1.2.2.2.2.2 H2.out.1 HA2.out.2.2 h8 hB2 (by have := HNN.out; omega) (by rw [← HNL.out.1]; exact hnm) (by rw [← HNL.out.2]; exact hkm))
      go_wp2_with fail
      go_at_call 32
      refine HC.out.mono ?_
      rintro e3 w3 h3
      have HX := Lib.hid (h3.up (R' := R) (N' := N) (by rw [HR.out]; rfl) H2.out.2 (by have := HNN.out; omega))
      obtain ⟨ok, rfl⟩ := h3.says
      clear h3
      go_wp2_with fail
      go_ret
      exact HX.out
theorem wvalue_any (B b : Nat) (h8 : 8 ≤ B) : ∀ (d : Nat) (q : Int), 0 ≤ q → q + d = 5 → ValueC B b q (outL d)
  | 0, q, h0, hq, x, kk, tt, mm, AA, nl, cA, KK, kl, cK, cs, W, hj, h, ht, hB, hl => wstep_any B b q cs none h0 (by omega) ⟨(fun _ => by omega), fun _ => rfl⟩ (fun _ e => by cases e) x kk tt mm AA nl cA KK kl cK W hj h ht h8 hB hl
  | d + 1, q, h0, hq, x, kk, tt, mm, AA, nl, cA, KK, kl, cK, cs, W, hj, h, ht, hB, hl => wstep_any B b q cs (some (outL d)) h0 (by omega) ⟨(fun e => by cases e), fun e => by omega⟩ (fun one e => by cases e; exact wvalue_any B b h8 d (q + 1) (by omega) (by omega)) x kk tt mm AA nl cA KK kl cK W hj h ht h8 hB hl
end Go.Proofs.YtibmlaimbapfjaaDoor
