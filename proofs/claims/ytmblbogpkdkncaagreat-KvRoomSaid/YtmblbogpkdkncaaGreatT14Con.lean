/- The contracts of the program's stores, in the words of T14K. -/
import Derived.Test.YtmblbogpkdkncaaGreatP14Op
namespace Go.Proofs.YtmblbogpkdkncaaGreat
open Go.RowKit

/-! Sizes. -/
theorem log_len {bs : List (List Wr)} : bs.flatten.length ≤ (logL bs).length := by
  induction bs with
  | nil => simp [logL]
  | cons b bs ih =>
    rw [logL_cons, List.flatten_cons, List.length_append, List.length_append, frameL_length]
    have := many_body b
    omega
theorem LogOf.len {us : List Int} {l : List Wr} (h : LogOf us l) : l.length ≤ us.length := by
  obtain ⟨bs, -, rfl, rfl⟩ := h
  have h1 := doW_length [] bs.flatten
  have h2 := log_len (bs := bs)
  simp only [List.length_nil, Nat.zero_add] at h1
  omega
theorem file_le {fs : List Fl} {f : Fl} (h : f ∈ fs) : f.all.size ≤ usedD fs := by
  induction fs with
  | nil => cases h
  | cons g fs ih =>
    have e : usedD (g :: fs) = g.all.size + usedD fs := by simp [usedD]
    rw [e]
    rcases List.mem_cons.1 h with rfl | h
    · omega
    · have := ih h; omega
theorem KD.log_small {Q : Dr} {D : Kd} (h : KD Q D) {p : ByteArray × List Wr} (_ : p ∈ D.lies) {s : ByteArray} (hs : (⟨logN p.1, s, []⟩ : Fl) ∈ Q.fs) : s.size ≤ 16777216 := by
  have h1 := file_le hs
  have h2 := h.go.used
  have h3 := h.go.max
  have e : (Fl.mk (logN p.1) s []).all = s := rfl
  rw [e] at h1
  omega
theorem KD.lies_len {Q : Dr} {D : Kd} (h : KD Q D) {p : ByteArray × List Wr} (hp : p ∈ D.lies) : p.2.length ≤ 16777216 := by
  obtain ⟨s, h1, h2⟩ := h.logs p hp
  have h3 := h2.len
  rw [txt_length] at h3
  have := h.log_small hp h1
  omega
theorem KD.room_le {Q : Dr} {D : Kd} (h : KD Q D) : D.room ≤ 16777216 := by
  have h1 := h.room
  have h2 := h.go.max
  omega

theorem cost_mem {ws : List Wr} {x : Wr} (h : x ∈ ws) : x.key.size + x.val.size ≤ costW ws := by
  induction ws with
  | nil => cases h
  | cons y ws ih =>
    have e : costW (y :: ws) = y.key.size + y.val.size + 64 + costW ws := by unfold costW; simp; omega
    rw [e]
    rcases List.mem_cons.1 h with rfl | h
    · omega
    · have := ih h; omega
/-- A store of the drive at b, its map in block m. -/
structure StK (W : World) (b : Nat) (D : Kd) (s : Sk) (m : Nat) (O Od : Nat → Prop) : Prop where
  at_ : StAt W s.1 b s.2.1 m
  map : MapW W m s.2.2
  own : O s.1 ∧ O m
  apart : ¬ Od s.1 ∧ ¬ Od m
  there : ∃ l, (s.2.1, l) ∈ D.lies
  few : s.2.2.length ≤ 16777216
/-- A drive at b and stores upon it. -/
def KS (W : World) (b : Nat) (D : Kd) (ss : List Sk) (O : Nat → Prop) : Prop :=
  ∃ Q Od, PD W b Q Od ∧ KD Q D ∧ (∀ k, Od k → O k) ∧ (∀ (i : Nat) (s : Sk), ss[i]? = some s → ∃ m, StK W b D s m O Od) ∧ ∀ (i j : Nat) (s t : Sk), ss[i]? = some s → ss[j]? = some t → i ≠ j → s.1 ≠ t.1
theorem KS.keep {W W' : World} {b : Nat} {D : Kd} {ss : List Sk} {O O' : Nat → Prop} (h : KS W b D ss O) (hO : ∀ k, O k → O' k) (hk : ∀ k, O k → k < W.heap.size → W'.heap[k]? = W.heap[k]?) : KS W' b D ss O' := by
  obtain ⟨Q, Od, h1, h2, h3, h4, h5⟩ := h
  refine ⟨Q, Od, h1.keep (fun _ h => h) (fun k ho hlt => hk k (h3 k ho) hlt), h2, fun k ho => hO k (h3 k ho), fun i s hi => ?_, h5⟩
  obtain ⟨m, k⟩ := h4 i s hi
  exact ⟨m, k.at_.keep (hk _ k.own.1 k.at_.lt), k.map.keep (hk _ k.own.2 k.map.lt), ⟨hO _ k.own.1, hO _ k.own.2⟩, k.apart, k.there, k.few⟩
/-- Keys are short. -/
theorem KS.few {W : World} {b : Nat} {D : Kd} {ss : List Sk} {O : Nat → Prop} (h : KS W b D ss O) {i ps : Nat} {n : ByteArray} {l : List Wr} (hi : ss[i]? = some (ps, n, l)) : ∀ x ∈ l, x.key.size ≤ 1000 := by
  obtain ⟨Q, Od, h1, h2, h3, h4, h5⟩ := h
  obtain ⟨m, k⟩ := h4 i _ hi
  exact k.map.few
/-- What a call answers, and leaves. -/
def KSays (O : Nat → Prop) (W : World) (b : Nat) (D : Kd) (ss : List Sk) (v : Value) (e : Ending) (w' : World) : Prop := e = .returned v ∧ KS w' b D ss (NewO O W w') ∧ KeepO O W w'
def compactK (D : Kd) (n : ByteArray) : Kd := { D with room := D.room - costW (liesAt D n), used := if D.lies.length = 1 then some (sizeK (liesAt D n) : Int) else none }
theorem knew (q : Int) (W : World) (h0 : 0 ≤ q) (h1 : q ≤ 16777216) : Calls Tryz.prog 7 #[.int .i64 q] W (fun e w' => ∃ b, e = .returned (.pointer (some ⟨b, 0, none⟩)) ∧ KS w' b ⟨[], q.toNat, some 0⟩ [] (fun k => W.heap.size ≤ k ∧ k < w'.heap.size) ∧ Below W.heap.size W w') :=
  (pnew_any q W ⟨h0, h1⟩).mono fun e w' ⟨b, k1, k2, k3⟩ => ⟨b, k1, ⟨newD q, _, k2, KD.new q h0 h1, fun _ h => h, fun i s hi => by simp at hi, fun i j s t hi => by simp at hi⟩, k3⟩
/-- Stores that stay, where the drive's own blocks alone are touched. -/
theorem stores_stay {W W' : World} {b : Nat} {D D' : Kd} {ss : List Sk} {O Od Od' : Nat → Prop} (_ : ∀ k, O k → k < W.heap.size) (h4 : ∀ (i : Nat) (s : Sk), ss[i]? = some s → ∃ m, StK W b D s m O Od) (hk : KeepO Od W W') (ho : ∀ k, Od' k → NewO Od W W' k) (hl : ∀ n l, (n, l) ∈ D.lies → ∃ l', (n, l') ∈ D'.lies) :
    ∀ (i : Nat) (s : Sk), ss[i]? = some s → ∃ m, StK W' b D' s m (NewO O W W') Od' := fun i s hi => by
  obtain ⟨m, k⟩ := h4 i s hi
  refine ⟨m, k.at_.keepO hk k.apart.1, k.map.keep (hk.block _ k.map.lt k.apart.2), ⟨.inl k.own.1, .inl k.own.2⟩, ⟨fun h => ?_, fun h => ?_⟩, ?_, k.few⟩
  · exact newO_not k.apart.1 k.at_.lt (ho _ h)
  · exact newO_not k.apart.2 k.map.lt (ho _ h)
  · obtain ⟨l, h⟩ := k.there
    exact hl _ _ h
theorem keepO_more {O Od : Nat → Prop} {W W' : World} (h : KeepO Od W W') (ho : ∀ k, Od k → O k) : KeepO O W W' := ⟨h.os, h.tape, h.output, h.size, fun k hk hn => h.block k hk (fun h => hn (ho k h))⟩
theorem newO_more {O Od : Nat → Prop} {W W' : World} (ho : ∀ k, Od k → O k) {k : Nat} (h : NewO Od W W' k) : NewO O W W' k := h.elim (fun h => .inl (ho _ h)) .inr
/-- A call that touches the drive alone. -/
theorem ksays_drive {W : World} {b : Nat} {D D' : Kd} {ss : List Sk} {O Od : Nat → Prop} {Q' : Dr} {v : Value} {e : Ending} {w' : World} (hO : ∀ k, O k → k < W.heap.size) (h3 : ∀ k, Od k → O k) (h4 : ∀ (i : Nat) (s : Sk), ss[i]? = some s → ∃ m, StK W b D s m O Od) (h5 : ∀ (i j : Nat) (s t : Sk), ss[i]? = some s → ss[j]? = some t → i ≠ j → s.1 ≠ t.1)
    (hl : ∀ n l, (n, l) ∈ D.lies → ∃ l', (n, l') ∈ D'.lies) (hK : KD Q' D') (hp : PSays Od W b Q' v e w') : KSays O W b D' ss v e w' :=
  ⟨hp.1, ⟨Q', NewO Od W w', hp.2.1, hK, fun _ hk => newO_more h3 hk, stores_stay hO h4 hp.2.2 (fun _ h => h) hl, h5⟩, keepO_more hp.2.2 h3⟩
theorem ksays_below {W : World} {b : Nat} {D : Kd} {ss : List Sk} {O : Nat → Prop} (h : KS W b D ss O) {v : Value} {e : Ending} {w' : World} (he : e = .returned v) (hb : Below W.heap.size W w') : KSays O W b D ss v e w' :=
  ⟨he, h.keep (fun _ h => .inl h) (fun k _ hlt => hb.block k hlt), KeepO.of hb⟩
theorem put_there {K : Kd} {n : ByteArray} {v : List Wr} {r : Nat} {u : Option Int} : ∀ a l, (a, l) ∈ K.lies → ∃ l', (a, l') ∈ (Kd.mk (putK K.lies n v) r u).lies := fun a l h => by
  show ∃ l', (a, l') ∈ putK K.lies n v
  unfold putK
  by_cases e : a = n
  · exact ⟨v, List.mem_map.2 ⟨(a, l), h, by rw [if_pos e, e]⟩⟩
  · exact ⟨l, List.mem_map.2 ⟨(a, l), h, by rw [if_neg e]⟩⟩
section
variable {W : World} {b : Nat} {D : Kd} {ss : List Sk} {O : Nat → Prop} (h : KS W b D ss O) (hO : ∀ k, O k → k < W.heap.size)
include h hO
theorem kopen (n : ByteArray) (hn : nameK n) (hl : D.lies.length ≤ 100) : Calls Tryz.prog 8 #[.pointer (some ⟨b, 0, none⟩), .string n] W (fun e w' => ∃ ps, KSays O W b (openK D n) (ss ++ [(ps, n, liesAt D n)]) (.tuple #[.pointer (some ⟨ps, 0, none⟩), .int .i64 0]) e w') := by
  obtain ⟨Q, Od, h1, h2, h3, h4, h5⟩ := h
  have hOd : ∀ k, Od k → k < W.heap.size := fun k hk => hO k (h3 k hk)
  have hli := h2.list hn
  have hg0 := h2.go.gop (by omega)
  have hz1 := log_size n
  have hz2 := new_size n
  have hn20 := hn.2.2
  have fin : ∀ (Q2 : Dr) (e : Ending) (w' : World), KD Q2 (openK D n) → (∃ l, (n, l) ∈ (openK D n).lies) → (liesAt D n).length ≤ 16777216 → OpenP W b n (liesAt D n) Q2 Od e w' → ∃ ps, KSays O W b (openK D n) (ss ++ [(ps, n, liesAt D n)]) (.tuple #[.pointer (some ⟨ps, 0, none⟩), .int .i64 0]) e w' := by
    intro Q2 e w' hK hth hlen ⟨ps, m, k1, k2, k3, k4, k5, k6, k7, k8, k9⟩
    refine ⟨ps, k1, ⟨Q2, _, k8, hK, fun k hk => newO_more h3 hk.1, fun i s hi => ?_, fun i j s t hi hj hne => ?_⟩, keepO_more k9 h3⟩
    · rcases Nat.lt_or_ge i ss.length with hlt | hge
      · rw [List.getElem?_append_left hlt] at hi
        exact stores_stay hO h4 k9 (fun k hk => hk.1) (fun a l hal => by
          unfold openK
          split
          · exact ⟨l, hal⟩
          · exact ⟨l, List.mem_append_left _ hal⟩) i s hi
      · rw [List.getElem?_append_right hge] at hi
        obtain ⟨hi0, rfl⟩ : i - ss.length = 0 ∧ s = (ps, n, liesAt D n) := by
          cases hq : i - ss.length with
          | zero => rw [hq] at hi; simp at hi; exact ⟨rfl, hi.symm⟩
          | succ q => rw [hq] at hi; simp at hi
        exact ⟨m, k6, k7, ⟨.inr ⟨k2, k3⟩, .inr ⟨k4, k5⟩⟩, ⟨fun hk => hk.2.1 rfl, fun hk => hk.2.2 rfl⟩, hth, hlen⟩
    · have hps : ∀ (i : Nat) (s : Sk), ss[i]? = some s → s.1 ≠ ps := fun i s hi e => by
        obtain ⟨m', k⟩ := h4 i s hi
        have := k.at_.lt
        omega
      have one : ∀ (i : Nat) (s : Sk), (ss ++ [(ps, n, liesAt D n)])[i]? = some s → (ss[i]? = some s ∧ i < ss.length) ∨ (i = ss.length ∧ s.1 = ps) := fun i s hi => by
        rcases Nat.lt_or_ge i ss.length with hlt | hge
        · rw [List.getElem?_append_left hlt] at hi; exact .inl ⟨hi, hlt⟩
        · rw [List.getElem?_append_right hge] at hi
          cases hq : i - ss.length with
          | zero => rw [hq] at hi; simp at hi; exact .inr ⟨by omega, by rw [← hi]⟩
          | succ q => rw [hq] at hi; simp at hi
      rcases one i s hi with ⟨a1, a2⟩ | ⟨a1, a2⟩ <;> rcases one j t hj with ⟨b1, b2⟩ | ⟨b1, b2⟩
      · exact h5 i j s t a1 b1 hne
      · rw [b2]; exact hps i s a1
      · rw [a2]; exact (hps j t b1).symm
      · omega
  by_cases hex : ∃ p ∈ D.lies, p.1 = n
  · obtain ⟨p, hp, rfl⟩ := hex
    rw [if_pos (List.any_eq_true.2 ⟨p, hp, decide_eq_true rfl⟩)] at hli
    obtain ⟨-, hK⟩ := h2.old hp
    obtain ⟨s, hs, hlog⟩ := h2.logs p hp
    have hla := lies_at h2.one hp
    have hssz := h2.log_small hp hs
    obtain ⟨bs, hbs, hus, hdo⟩ := hlog
    have hstr : s = strOfNums (logL bs) := by rw [← hus, str_txt]
    have hll : (logL bs).length ≤ 16777216 := by rw [← hus, txt_length]; exact hssz
    have hr2 := read_fs h2.go (h2.news p hp)
    have k := open_p h1 hOd hn h2.go.down (.inr hli) bs hbs ((read_fs h2.go hs).trans hstr) hr2 (by omega) (by have := log_len (bs := bs); omega) hg0 (create_old h2.go hs) (.inr rfl) hg0 hr2 (create_old h2.go (h2.news p hp)) (.inr rfl)
    rw [hdo, ← hla] at k
    exact k.mono fun e w' hk => fin Q e w' hK (by
      unfold openK
      rw [if_pos (List.any_eq_true.2 ⟨p, hp, decide_eq_true rfl⟩)]
      exact ⟨p.2, hp⟩) (by rw [hla]; exact h2.lies_len hp) hk
  · have hno : ∀ p ∈ D.lies, p.1 ≠ n := fun p hp e => hex ⟨p, hp, e⟩
    have hany : D.lies.any (fun p => decide (p.1 = n)) = false := by
      rw [List.any_eq_false]
      intro p hp
      simpa using hno p hp
    rw [hany] at hli
    obtain ⟨n1, D1, D2, c1, g1, n3, c2, hK, hla⟩ := h2.fresh hn hno hl
    have n2 : ∀ f ∈ Q.fs, f.name ≠ newN n := fun f hf e => by
      obtain ⟨p, a1, a2⟩ := h2.names f hf
      rcases a2 with a2 | a2
      · exact log_new p.1 n (a2.symm.trans e)
      · exact hno p a1 (new_inj (a2.symm.trans e))
    have k := open_p h1 hOd hn h2.go.down (.inl hli) [] (fun b hb => by cases hb) (read_none n1) (read_none n2) (by simp [logL]) (by simp) hg0 c1 (.inl rfl) (g1.gop (by omega)) (read_none n3) c2 (.inl rfl)
    rw [show doW [] (([] : List (List Wr)).flatten) = liesAt D n from hla.symm] at k
    exact k.mono fun e w' hk => fin D2 e w' hK (by
      unfold openK
      rw [hany]
      exact ⟨[], List.mem_append_right _ (List.mem_singleton.2 rfl)⟩) (by rw [hla]; simp) hk
omit hO in
theorem kopen_bad (n : ByteArray) (hn : ¬ nameK n) (_ : n.size ≤ 1000) : Calls Tryz.prog 8 #[.pointer (some ⟨b, 0, none⟩), .string n] W (KSays O W b D ss (.tuple #[.pointer none, .int .i64 1])) :=
  (open_bad hn).mono fun _ _ ⟨k1, k2⟩ => ksays_below h k1 k2
section
variable {i ps : Nat} {n : ByteArray} {l : List Wr} (hi : ss[i]? = some (ps, n, l))
include hi
theorem kapply (hl : l = liesAt D n) (X : Option Addr) (m c : Nat) (ws : List Wr) (hX : WrIn W X ws) (hf : ∀ a, X = some a → ¬ O a.block) (hm : m = ws.length) (h1 : m ≤ 100) (hmay : ws.all mayW = true) (hr : costW ws ≤ D.room) : Calls Tryz.prog 11 #[.pointer (some ⟨ps, 0, none⟩), .slice X m c] W (KSays O W b (applyK D n ws) (ss.set i (ps, n, doW l ws)) (.int .i64 0)) := by
  obtain ⟨Q, Od, g1, h2, h3, h4, h5⟩ := h
  obtain ⟨mb, hk⟩ := h4 i _ hi
  have hOd : ∀ k, Od k → k < W.heap.size := fun k hk => hO k (h3 k hk)
  obtain ⟨l', hp'⟩ := hk.there
  have hpl : (n, l) ∈ D.lies := by
    have := lies_at h2.one hp'
    simp only at this
    rw [hl, this]
    exact hp'
  have hz1 := log_size n
  have hnk := h2.ok _ hpl
  have hn20 : n.size ≤ 20 := hnk.2.2
  have hfew : l.length ≤ 16777216 := hk.few
  have hrise := hk.map.rise
  have main : ∃ D2, KD D2 (applyK D n ws) ∧ ∀ w2 Od' Y k, StAt w2 ps b n mb → PD w2 b Q Od' → (∀ k, Od' k → k < w2.heap.size) → ¬ Od' ps → WrIn w2 Y (lastW ws) → Calls Tryz.prog 48 #[.pointer (some ⟨ps, 0, none⟩), .string (logN n), .slice Y (lastW ws).length k] w2 (PSays Od' w2 b D2 (.int .i64 0)) := by
    by_cases h0 : lastW ws = []
    · have hw0 := last_nil h0
      subst hw0
      exact ⟨Q, h2.apply_nil hpl, fun w2 Od' Y k a1 a2 a3 a4 a5 => (swrite_nil Y k (logN n)).mono fun e w' ⟨k1, k2⟩ => by
        rw [k2]
        exact ⟨k1, a2.keep (fun _ h => .inl h) (fun _ _ _ => rfl), KeepO.refl _ _⟩⟩
    · obtain ⟨-, D1, D2, e1, e2, gl1, hK⟩ := h2.apply hpl ws hmay hr h0
      have hb := bodyL_cost (lastW ws)
      have hc := cost_last ws
      have hrm := h2.room_le
      exact ⟨D2, hK, fun w2 Od' Y k a1 a2 a3 a4 a5 => swrite_p a1 a2 a3 a4 (h2.go.gop (by omega)) (logN n) (by omega) Y k (lastW ws) a5 (may_last hmay) h0 (by omega) e1 (gl1.gop (by omega)) e2⟩
  obtain ⟨D2, hK, hw⟩ := main
  refine (Apply_p hk.at_ hk.map g1 hOd hk.apart.1 hk.apart.2 h2.go.down X c m ws hX (fun a ha ho => hf a ha (h3 _ ho)) hm hmay (by have : l.length ≤ 16777216 := hk.few; show l.length + _ ≤ _; omega) hw).mono fun e w' ⟨k1, m2, k2, k3, k4, k5, k6, k7⟩ => ?_
  rw [do_last hrise] at k5
  have hpst := hk.at_.lt
  have hil : i < ss.length := (List.getElem?_eq_some_iff.1 hi).1
  have hset : ∀ (j : Nat) (s : Sk), (ss.set i (ps, n, doW l ws))[j]? = some s → (j = i ∧ s = (ps, n, doW l ws)) ∨ (j ≠ i ∧ ss[j]? = some s) := fun j s hj => by
    by_cases e : i = j
    · subst e
      rw [List.getElem?_set_self hil] at hj
      exact .inl ⟨rfl, (Option.some.inj hj).symm⟩
    · rw [List.getElem?_set_ne e] at hj
      exact .inr ⟨fun h => e h.symm, hj⟩
  have hkO : KeepO O W w' := keepO_more k7 (fun k hk2 => hk2.elim (h3 k) (fun e => e ▸ hk.own.1))
  have hzz := k7.size
  refine ⟨k1, ⟨D2, _, k6, hK, fun k hk2 => newO_more h3 hk2.1, fun j s hj => ?_, fun j1 j2 s t hj1 hj2 hne => ?_⟩, hkO⟩
  · rcases hset j s hj with ⟨rfl, rfl⟩ | ⟨hne, hj⟩
    · refine ⟨m2, k4, k5, ⟨.inl hk.own.1, .inr ⟨k2, k3⟩⟩, ⟨fun h => h.2.2 rfl, fun h => h.2.1 rfl⟩, put_there n l hpl, ?_⟩
      have hla : liesAt (applyK D n ws) n = doW l ws := lies_at hK.one (p := (n, doW l ws)) (by
        show (n, doW l ws) ∈ putK D.lies n (doW (liesAt D n) ws)
        unfold putK
        exact List.mem_map.2 ⟨(n, l), hpl, by rw [if_pos rfl, ← hl]⟩)
      exact hK.lies_len (p := (n, doW l ws)) (by
        show (n, doW l ws) ∈ putK D.lies n (doW (liesAt D n) ws)
        unfold putK
        exact List.mem_map.2 ⟨(n, l), hpl, by rw [if_pos rfl, ← hl]⟩)
    · obtain ⟨mj, q⟩ := h4 j s hj
      have hnp : s.1 ≠ ps := h5 j i s _ hj hi hne
      have hnm : mj ≠ ps := fun e => by
        obtain ⟨o, a1, a2⟩ := map_block q.map
        rw [e, show W.heap[ps]? = _ from hk.at_] at a1
        cases a1
        cases a2
      refine ⟨mj, q.at_.keepO k7 (fun ho => ho.elim q.apart.1 hnp), q.map.keep (k7.block mj q.map.lt (fun ho => ho.elim q.apart.2 hnm)), ⟨.inl q.own.1, .inl q.own.2⟩, ⟨fun h => newO_not q.apart.1 q.at_.lt h.1, fun h => newO_not q.apart.2 q.map.lt h.1⟩, ?_, q.few⟩
      obtain ⟨l2, hl2⟩ := q.there
      exact put_there _ _ hl2
  · rcases hset j1 s hj1 with ⟨rfl, rfl⟩ | ⟨-, q1⟩ <;> rcases hset j2 t hj2 with ⟨rfl, rfl⟩ | ⟨-, q2⟩
    · exact absurd rfl hne
    · exact (h5 _ _ (ps, n, l) t hi q2 hne : ps ≠ t.1)
    · exact (h5 _ _ s (ps, n, l) q1 hi hne : s.1 ≠ ps)
    · exact h5 _ _ _ _ q1 q2 hne
theorem kapply_bad (_ : l = liesAt D n) (X : Option Addr) (m c : Nat) (ws : List Wr) (hX : WrIn W X ws) (hf : ∀ a, X = some a → ¬ O a.block) (hm : m = ws.length) (h1 : m ≤ 100) (hr : costW ws ≤ D.room) (hmay : ws.all mayW = false) : Calls Tryz.prog 11 #[.pointer (some ⟨ps, 0, none⟩), .slice X m c] W (KSays O W b D ss (.int .i64 1)) := by
  obtain ⟨Q, Od, g1, h2, h3, h4, h5⟩ := h
  obtain ⟨mb, hk⟩ := h4 i _ hi
  exact (Apply_bad hk.at_ g1 hk.apart.1 h2.go.down X c m ws hX (fun a ha ho => hf a ha (h3 _ ho)) hm (fun x hx => by have := cost_mem hx; have := h2.room_le; omega) hmay (by omega)).mono fun e w' hp => ksays_drive hO h3 h4 h5 (fun _ l hl => ⟨l, hl⟩) h2 hp
theorem kcompact (hl : l = liesAt D n) (hr : costW l ≤ D.room) : Calls Tryz.prog 13 #[.pointer (some ⟨ps, 0, none⟩)] W (KSays O W b (compactK D n) ss (.int .i64 0)) := by
  obtain ⟨Q, Od, g1, h2, h3, h4, h5⟩ := h
  obtain ⟨mb, hk⟩ := h4 i _ hi
  have hOd : ∀ k, Od k → k < W.heap.size := fun k hk => hO k (h3 k hk)
  obtain ⟨l', hp'⟩ := hk.there
  have hpl : (n, l) ∈ D.lies := by
    have := lies_at h2.one hp'
    simp only at this
    rw [hl, this]
    exact hp'
  have hz1 := log_size n
  have hz2 := new_size n
  have hnk := h2.ok _ hpl
  have hn20 : n.size ≤ 20 := hnk.2.2
  have hfew : l.length ≤ 16777216 := hk.few
  have hrise : RiseW l := hk.map.rise
  have hnew := h2.news _ hpl
  simp only at hnew
  obtain ⟨s0, hs0, hlog⟩ := h2.logs _ hpl
  have hrm := h2.room_le
  have hroom := h2.room
  have main : ∃ D2 s, GoL 0 D2 ∧ (∀ y, y ∈ D2.fs ↔ y = ⟨newN n, s, []⟩ ∨ (y ∈ Q.fs ∧ y.name ≠ newN n)) ∧ usedD D2.fs = usedD Q.fs + s.size ∧ D2.fs.length = Q.fs.length ∧ D2.max = Q.max ∧ LogOf (txt s) l ∧ s.size = sizeK l ∧
      ∀ w2 Od' Y k, StAt w2 ps b n mb → PD w2 b Q Od' → (∀ k, Od' k → k < w2.heap.size) → ¬ Od' ps → WrIn w2 Y l → Calls Tryz.prog 48 #[.pointer (some ⟨ps, 0, none⟩), .string (newN n), .slice Y l.length k] w2 (PSays Od' w2 b D2 (.int .i64 0)) := by
    by_cases h0 : l = []
    · refine ⟨Q, ⟨#[]⟩, h2.go, fun y => ?_, rfl, rfl, rfl, ?_, ?_, fun w2 Od' Y k a1 a2 a3 a4 a5 => ?_⟩
      · constructor
        · intro hy
          by_cases e : y.name = newN n
          · exact .inl (srt_uniq h2.go.srt y hy _ hnew e)
          · exact .inr ⟨hy, e⟩
        · rintro (rfl | ⟨hy, -⟩)
          · exact hnew
          · exact hy
      · rw [h0]; exact LogOf.nil
      · unfold sizeK; rw [if_pos h0]; rfl
      · have := swrite_nil (W := w2) (ps := ps) Y k (newN n)
        rw [h0]
        exact this.mono fun e w' ⟨k1, k2⟩ => by
          rw [k2]
          exact ⟨k1, a2.keep (fun _ h => .inl h) (fun _ _ _ => rfl), KeepO.refl _ _⟩
    · have hz : (strOfNums (frameL l)).size ≤ costW l := by rw [size_str]; exact frame_cost l
      obtain ⟨D1, D2, e1, e2, gl1, gl2, m2, u2, l2, x2⟩ := write_fs h2.go hnew (strOfNums (frameL l)) (by omega)
      have hb := bodyL_cost l
      refine ⟨D2, strOfNums (frameL l), gl2, fun y => ?_, u2, l2, x2, ?_, ?_, fun w2 Od' Y k a1 a2 a3 a4 a5 => ?_⟩
      · rw [m2, show (⟨#[]⟩ : ByteArray) ++ strOfNums (frameL l) = strOfNums (frameL l) from by apply txt_inj; rw [txt_add]; rfl]
      · rw [txt_str _ (frameL_bytes _)]
        exact LogOf.one h0 hrise hlog.may hlog.stays
      · rw [size_str]; unfold sizeK; rw [if_neg h0]
      · exact swrite_p a1 a2 a3 a4 (h2.go.gop (by omega)) (newN n) (by omega) Y k l a5 hlog.may h0 (by omega) e1 (gl1.gop (by omega)) e2
  obtain ⟨D2, s, gl2, m2, u2, l2, x2, hls, hsz, hw⟩ := main
  obtain ⟨D3, D4, e3, gl3, e4, hK⟩ := h2.turn hpl gl2 m2 u2 l2 x2 hls hsz hr
  have hK2 : KD D4 (compactK D n) := by unfold compactK; rw [← hl]; exact hK
  exact (Compact_p hk.at_ hk.map g1 hOd hk.apart.1 hk.apart.2 h2.go.down (h2.go.gop (by omega)) (by show n.size ≤ 900; omega) (by show l.length ≤ _; omega) (create_old h2.go hnew) hw (gl2.gop (by omega)) e3 (gl3.gop (by omega)) e4).mono fun e w' hp => ksays_drive hO h3 h4 h5 (fun _ l hl => ⟨l, hl⟩) hK2 hp
omit hO in
theorem kget (k : ByteArray) (hk : k.size ≤ 1000) : Calls Tryz.prog 17 #[.pointer (some ⟨ps, 0, none⟩), .string k] W (KSays O W b D ss (.tuple #[.string (getW l k).1, .bool (getW l k).2])) := by
  obtain ⟨Q, Od, g1, h2, h3, h4, h5⟩ := id h
  obtain ⟨mb, q⟩ := h4 i _ hi
  exact (get_p q.at_ q.map k hk).mono fun e w' ⟨k1, k2⟩ => ksays_below h k1 k2
theorem kkeys (p : ByteArray) : Calls Tryz.prog 18 #[.pointer (some ⟨ps, 0, none⟩), .string p] W (fun e w' => ∃ X c, e = .returned (.slice X (keysW l p).length c) ∧ w'.ownsRow W.heap.size 9 1 (.slice X (keysW l p).length c) (keysW l p).length ((keysW l p).map Value.string) ∧ KS w' b D ss (fun k => NewO O W w' k ∧ (Value.slice X (keysW l p).length c).ownBlock ≠ some k) ∧ KeepO O W w') := by
  obtain ⟨Q, Od, g1, h2, h3, h4, h5⟩ := id h
  obtain ⟨mb, q⟩ := h4 i _ hi
  refine (keys_p q.at_ q.map p (by have : l.length ≤ 16777216 := q.few; show l.length ≤ _; omega)).mono fun e w' ⟨X, c, k1, k2, k3⟩ => ⟨X, c, k1, k2, h.keep (fun k hk => ⟨.inl hk, fun e => ?_⟩) (fun k _ hlt => k3.block k hlt), KeepO.of k3⟩
  have h9 := own_ge k2 e
  have := hO k hk
  omega
omit hO in
theorem klen : Calls Tryz.prog 30 #[.pointer (some ⟨ps, 0, none⟩)] W (KSays O W b D ss (.int .i64 (l.length : Int))) := by
  obtain ⟨Q, Od, g1, h2, h3, h4, h5⟩ := id h
  obtain ⟨mb, q⟩ := h4 i _ hi
  exact (len_p q.at_ q.map).mono fun e w' ⟨k1, k2⟩ => by rw [k2]; exact ksays_below h k1 (Below.refl _ _)
end
theorem kused {u : Int} (hu : D.used = some u) : Calls Tryz.prog 15 #[.pointer (some ⟨b, 0, none⟩)] W (KSays O W b D ss (.int .i64 u)) := by
  obtain ⟨Q, Od, g1, h2, h3, h4, h5⟩ := h
  have k := qused g1
  rw [h2.used u hu] at k
  exact k.mono fun e w' hp => ksays_drive hO h3 h4 h5 (fun _ l hl => ⟨l, hl⟩) h2 hp
end
end Go.Proofs.YtmblbogpkdkncaaGreat
