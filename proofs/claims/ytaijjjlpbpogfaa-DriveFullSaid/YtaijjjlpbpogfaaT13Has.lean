/- What a law holds: the reference's drive and the program's, apart from one another. -/
import Derived.Test.YtaijjjlpbpogfaaT13Con
namespace Go.Proofs.Ytaijjjlpbpogfaa
open Go.RowKit

/-- Both drives, in blocks of their own, all of them the call's. -/
structure Two (w0 W : World) (X : List (Nat × Obj)) (rb : Nat) (R : Dr) (pb : Nat) (P : Dr) (Or Op : Nat → Prop) : Prop where
  r : RD W rb R Or
  p : PD W pb P Op
  apart : ∀ k, Or k → ¬ Op k
  rl : ∀ k, Or k → w0.heap.size ≤ k ∧ k < W.heap.size
  pl : ∀ k, Op k → w0.heap.size ≤ k ∧ k < W.heap.size
  below : Below w0.heap.size w0 W
  xs : ∀ p ∈ X, W.heap[p.1]? = some p.2 ∧ ¬ Or p.1 ∧ ¬ Op p.1
def HasD (w0 W : World) (X : List (Nat × Obj)) (rb : Nat) (R : Dr) (pb : Nat) (P : Dr) : Prop := ∃ Or Op, Two w0 W X rb R pb P Or Op
theorem HasD.below {w0 W : World} {X : List (Nat × Obj)} {rb pb : Nat} {R P : Dr} (h : HasD w0 W X rb R pb P) : Below w0.heap.size w0 W := by
  obtain ⟨_, _, h⟩ := h
  exact h.below
/-- Only what is new is touched. -/
theorem lt_of_at {a : Array Obj} {k : Nat} {o : Obj} (h : a[k]? = some o) : k < a.size := by
  rcases Nat.lt_or_ge k a.size with hl | hl
  · exact hl
  · rw [Array.getElem?_eq_none hl] at h
    cases h
theorem HasD.two_on {w0 W W' : World} {X : List (Nat × Obj)} {rb pb : Nat} {R P : Dr} {Or Op : Nat → Prop} (h : Two w0 W X rb R pb P Or Op) (hb : Below W.heap.size W W') : Two w0 W' X rb R pb P Or Op :=
  ⟨h.r.on hb, h.p.keep (fun _ h => h) (fun k _ hk => hb.block k hk), h.apart, fun k hk => ⟨(h.rl k hk).1, Nat.lt_of_lt_of_le (h.rl k hk).2 hb.size⟩, fun k hk => ⟨(h.pl k hk).1, Nat.lt_of_lt_of_le (h.pl k hk).2 hb.size⟩, h.below.trans (hb.mono h.below.size), fun p hp => ⟨(hb.block p.1 (lt_of_at (h.xs p hp).1)).trans (h.xs p hp).1, (h.xs p hp).2⟩⟩
theorem HasD.on {w0 W W' : World} {X : List (Nat × Obj)} {rb pb : Nat} {R P : Dr} (h : HasD w0 W X rb R pb P) (hb : Below W.heap.size W W') : HasD w0 W' X rb R pb P := by
  obtain ⟨Or, Op, h⟩ := h
  exact ⟨Or, Op, HasD.two_on h hb⟩
/-- The reference was asked. -/
theorem Two.asked_r {w0 W W' : World} {X : List (Nat × Obj)} {rb pb : Nat} {R P R' : Dr} {Or Op : Nat → Prop} (h : Two w0 W X rb R pb P Or Op) (hr : RD W' rb R' (NewO Or W W')) (hk : KeepO Or W W') : HasD w0 W' X rb R' pb P := by
  refine ⟨NewO Or W W', Op, hr, h.p.keep (fun _ h => h) (fun k ho hl => hk.block k hl (fun hr => h.apart k hr ho)), fun k hn ho => ?_, fun k hn => ?_, fun k ho => ⟨(h.pl k ho).1, Nat.lt_of_lt_of_le (h.pl k ho).2 hk.size⟩, KeepO.below h.below hk fun k ho => (h.rl k ho).1, fun p hp => ?_⟩
  · rcases hn with hn | hn
    · exact h.apart k hn ho
    · have := (h.pl k ho).2
      omega
  · have hs := h.below.size
    have := hk.size
    rcases hn with hn | hn
    · exact ⟨(h.rl k hn).1, Nat.lt_of_lt_of_le (h.rl k hn).2 hk.size⟩
    · exact ⟨by omega, hn.2⟩
  · obtain ⟨h1, h2, h3⟩ := h.xs p hp
    have hl := lt_of_at h1
    refine ⟨(hk.block p.1 hl h2).trans h1, fun hn => ?_, h3⟩
    rcases hn with hn | hn
    · exact h2 hn
    · omega
/-- The program was asked, of whose new blocks some may be left out. -/
theorem Two.asked_p {w0 W W' : World} {X : List (Nat × Obj)} {rb pb : Nat} {R P P' : Dr} {Or Op O' : Nat → Prop} (h : Two w0 W X rb R pb P Or Op) (hp : PD W' pb P' O') (hO : ∀ k, O' k → NewO Op W W' k) (hk : KeepO Op W W') : HasD w0 W' X rb R pb P' := by
  obtain ⟨F, fv, hr⟩ := h.r
  refine ⟨Or, O', ⟨F, fv, hr.keep (fun _ h => h) (fun k ho hl => hk.block k hl (fun hp => h.apart k ho hp))⟩, hp, fun k ho hn => ?_, fun k ho => ⟨(h.rl k ho).1, Nat.lt_of_lt_of_le (h.rl k ho).2 hk.size⟩, fun k hn => ?_, KeepO.below h.below hk fun k ho => (h.pl k ho).1, fun p hp' => ?_⟩
  · rcases hO k hn with hn | hn
    · exact h.apart k ho hn
    · have := (h.rl k ho).2
      omega
  · have hs := h.below.size
    have := hk.size
    rcases hO k hn with hn | hn
    · exact ⟨(h.pl k hn).1, Nat.lt_of_lt_of_le (h.pl k hn).2 hk.size⟩
    · exact ⟨by omega, hn.2⟩
  · obtain ⟨h1, h2, h3⟩ := h.xs p hp'
    have hl := lt_of_at h1
    refine ⟨(hk.block p.1 hl h3).trans h1, h2, fun hn => ?_⟩
    rcases hO p.1 hn with hn | hn
    · exact h3 hn
    · omega
/-- One more thing that stands. -/
theorem HasD.push {w0 W : World} {X : List (Nat × Obj)} {rb pb : Nat} {R P : Dr} (h : HasD w0 W X rb R pb P) (o : Obj) : HasD w0 (W.alloc o) ((W.heap.size, o) :: X) rb R pb P := by
  obtain ⟨Or', Op', t'⟩ := h
  have t2 := HasD.two_on t' ((Below.refl W.heap.size W).alloc (Nat.le_refl _) o)
  refine ⟨Or', Op', { t2 with xs := fun p hp => ?_ }⟩
  rcases List.mem_cons.1 hp with rfl | hp
  · refine ⟨by show (W.heap.push o)[W.heap.size]? = some o; simp, fun ho => ?_, fun ho => ?_⟩
    · have := (t'.rl _ ho).2
      omega
    · have := (t'.pl _ ho).2
      omega
  · exact t2.xs p hp
theorem HasD.drop {w0 W : World} {X Y : List (Nat × Obj)} {rb pb : Nat} {R P : Dr} (h : HasD w0 W X rb R pb P) (hs : ∀ p ∈ Y, p ∈ X) : HasD w0 W Y rb R pb P := by
  obtain ⟨Or, Op, t⟩ := h
  exact ⟨Or, Op, { t with xs := fun p hp => t.xs p (hs p hp) }⟩
theorem HasD.stands {w0 W : World} {X : List (Nat × Obj)} {rb pb : Nat} {R P : Dr} (h : HasD w0 W X rb R pb P) {k : Nat} {o : Obj} (hp : (k, o) ∈ X) : W.heap[k]? = some o := by
  obtain ⟨Or, Op, t⟩ := h
  exact (t.xs _ hp).1
/-- Numbers that came in. -/
def IntsAt (w0 : World) (A : Option Addr) (xs : List Int) : Prop := ∀ i x, xs[i]? = some x → M63 x ∧ ∃ ad, A = some ad ∧ ad.block < w0.heap.size ∧ w0.cell? (ad.add i) = some (.int .i64 x)
theorem IntsAt.keep {w0 W : World} {A : Option Addr} {xs : List Int} {O : Nat → Prop} (h : IntsAt w0 A xs) (hb : Below w0.heap.size w0 W) (hO : ∀ k, O k → w0.heap.size ≤ k) : KeepIn W O A xs := fun i x hx => by
  obtain ⟨h0, ad, h1, h2, h3⟩ := h i x hx
  exact ⟨h0, ad, h1, Nat.lt_of_lt_of_le h2 hb.size, fun ho => by have := hO _ ho; omega, (hb.cell (p := ad.add i) (by rw [addr_add_block]; exact h2)).trans h3⟩
/-- A call of the reference. -/
theorem has_r {w0 W : World} {X : List (Nat × Obj)} {rb pb : Nat} {R P R' : Dr} {f : FuncId} {args : Array Value} {v : Value} (h : HasD w0 W X rb R pb P) (hc : ∀ O, RD W rb R O → (∀ k, O k → w0.heap.size ≤ k ∧ k < W.heap.size) → Calls Try.prog f args W (fun e w' => e = .returned v ∧ RD w' rb R' (NewO O W w') ∧ KeepO O W w')) :
    Calls Try.prog f args W (fun e w' => e = .returned v ∧ HasD w0 w' X rb R' pb P) := by
  obtain ⟨Or, Op, h⟩ := h
  exact (hc Or h.r h.rl).mono fun e w' ⟨h1, h2, h3⟩ => ⟨h1, h.asked_r h2 h3⟩
/-- A call of the program. -/
theorem has_p {w0 W : World} {X : List (Nat × Obj)} {rb pb : Nat} {R P P' : Dr} {f : FuncId} {args : Array Value} {v : Value} (h : HasD w0 W X rb R pb P) (hc : ∀ O, PD W pb P O → (∀ k, O k → w0.heap.size ≤ k ∧ k < W.heap.size) → Calls Try.prog f args W (PSays O W pb P' v)) :
    Calls Try.prog f args W (fun e w' => e = .returned v ∧ HasD w0 w' X rb R pb P') := by
  obtain ⟨Or, Op, h⟩ := h
  exact (hc Op h.p h.pl).mono fun e w' ⟨h1, h2, h3⟩ => ⟨h1, h.asked_p h2 (fun _ h => h) h3⟩
section
variable {w0 W : World} {X : List (Nat × Obj)} {rb pb : Nat} {R P : Dr} (h : HasD w0 W X rb R pb P)
include h
theorem hp_create (n : ByteArray) (hg : GoD P) (hn : n.size ≤ 1000) : Calls Try.prog 17 #[.pointer (some ⟨pb, 0, none⟩), .string n] W (fun e w' => e = .returned (.int .i64 (createD P n).1) ∧ HasD w0 w' X rb R pb (createD P n).2) := has_p h fun _ hp hl => pcreate hp hg (fun k hk => (hl k hk).2) n hn
theorem hp_sync (n : ByteArray) (hg : GoD P) (hn : n.size ≤ 1000) : Calls Try.prog 19 #[.pointer (some ⟨pb, 0, none⟩), .string n] W (fun e w' => e = .returned (.int .i64 (syncD P n).1) ∧ HasD w0 w' X rb R pb (syncD P n).2) := has_p h fun _ hp hl => psync hp hg (fun k hk => (hl k hk).2) n hn
theorem hp_remove (n : ByteArray) (hg : GoD P) (hn : n.size ≤ 1000) : Calls Try.prog 34 #[.pointer (some ⟨pb, 0, none⟩), .string n] W (fun e w' => e = .returned (.int .i64 (removeD P n).1) ∧ HasD w0 w' X rb R pb (removeD P n).2) := has_p h fun _ hp hl => premove hp hg (fun k hk => (hl k hk).2) n hn
theorem hp_rename (x y : ByteArray) (hg : GoD P) (hx : x.size ≤ 1000) (hy : y.size ≤ 1000) : Calls Try.prog 32 #[.pointer (some ⟨pb, 0, none⟩), .string x, .string y] W (fun e w' => e = .returned (.int .i64 (renameD P x y).1) ∧ HasD w0 w' X rb R pb (renameD P x y).2) := has_p h fun _ hp hl => prename hp hg (fun k hk => (hl k hk).2) x y hx hy
theorem hp_quota (q : Int) (hg : GoD P) (hq : M63 q) : Calls Try.prog 36 #[.pointer (some ⟨pb, 0, none⟩), .int .i64 q] W (fun e w' => e = .returned (.int .i64 (quotaD P q).1) ∧ HasD w0 w' X rb R pb (quotaD P q).2) := has_p h fun _ hp hl => pquota hp hg (fun k hk => (hl k hk).2) q hq
theorem hp_arm (q : Int) (hg : GoD P) (hq : M63 q) : Calls Try.prog 27 #[.pointer (some ⟨pb, 0, none⟩), .int .i64 q] W (fun e w' => e = .returned (.tuple #[]) ∧ HasD w0 w' X rb R pb (armD P q)) := has_p h fun _ hp hl => parm hp hg (fun k hk => (hl k hk).2) q hq
theorem hp_up (A : Option Addr) (ka kc : Nat) (keep : List Int) (hg : GoD P) (hK : IntsAt w0 A keep) (hka : ka = keep.length) (hkc : ka ≤ kc) (hkm : kc ≤ maxLen) : Calls Try.prog 21 #[.pointer (some ⟨pb, 0, none⟩), .slice A ka kc] W (fun e w' => e = .returned (.tuple #[]) ∧ HasD w0 w' X rb R pb (upD P keep)) := has_p h fun _ hp hl => pup hp hg (fun k hk => (hl k hk).2) A ka kc keep (hK.keep h.below fun k hk => (hl k hk).1) hka hkc hkm
theorem hp_used (hg : GoD P) : Calls Try.prog 22 #[.pointer (some ⟨pb, 0, none⟩)] W (fun e w' => e = .returned (.int .i64 (usedD P.fs : Int)) ∧ HasD w0 w' X rb R pb P) := has_p h fun _ hp hl => pused hp hg (fun k hk => (hl k hk).2)
theorem hp_deeds (hg : GoD P) : Calls Try.prog 23 #[.pointer (some ⟨pb, 0, none⟩)] W (fun e w' => e = .returned (.int .i64 (P.done : Int)) ∧ HasD w0 w' X rb R pb P) := has_p h fun _ hp hl => pdeeds hp hg (fun k hk => (hl k hk).2)
theorem hp_alive (hg : GoD P) : Calls Try.prog 20 #[.pointer (some ⟨pb, 0, none⟩)] W (fun e w' => e = .returned (.bool (!P.down)) ∧ HasD w0 w' X rb R pb P) := has_p h fun _ hp hl => palive hp hg (fun k hk => (hl k hk).2)
theorem hp_append (n : ByteArray) (S : Option Addr) (m c : Nat) (us : List Int) (hg : GoD P) (hX : BytesIn W S c us) (hf : ∀ a, S = some a → ∃ o, (a.block, o) ∈ X) (hm : m = us.length) (hl : m ≤ 1000) (hn : n.size ≤ 1000) : Calls Try.prog 18 #[.pointer (some ⟨pb, 0, none⟩), .string n, .slice S m c] W (fun e w' => e = .returned (.int .i64 (appendD P n (strOfNums us)).1) ∧ HasD w0 w' X rb R pb (appendD P n (strOfNums us)).2) := by
  obtain ⟨Or, Op, t⟩ := h
  refine (pappend t.p hg (fun k hk => (t.pl k hk).2) n hn S m c us hX (fun a ha => ?_) hm hl).mono fun e w' ⟨h1, h2, h3⟩ => ⟨h1, t.asked_p h2 (fun _ h => h) h3⟩
  obtain ⟨o, ho⟩ := hf a ha
  exact (t.xs _ ho).2.2
theorem hr_create (n : ByteArray) (hg : GoD R) (hn : n.size ≤ 1000) : Calls Try.prog 29 #[.pointer (some ⟨rb, 0, none⟩), .string n] W (fun e w' => e = .returned (.int .i64 (createD R n).1) ∧ HasD w0 w' X rb (createD R n).2 pb P) := has_r h fun _ hr _ => rcreate_any n hr hg.inD hn
theorem hr_append (n x : ByteArray) (hg : GoD R) (hx : x.size ≤ 100000) : Calls Try.prog 30 #[.pointer (some ⟨rb, 0, none⟩), .string n, .string x] W (fun e w' => e = .returned (.int .i64 (appendD R n x).1) ∧ HasD w0 w' X rb (appendD R n x).2 pb P) := has_r h fun _ hr hl => rappend_any n x hr hg.inD (fun k hk => (hl k hk).2) hx
theorem hr_ends (n : ByteArray) (rm : Bool) (hg : GoD R) : Calls Try.prog 31 #[.pointer (some ⟨rb, 0, none⟩), .string n, .bool rm] W (fun e w' => e = .returned (.int .i64 (endsD R n rm).1) ∧ HasD w0 w' X rb (endsD R n rm).2 pb P) := has_r h fun _ hr _ => rends_any n rm hr hg.inD
theorem hr_rename (x y : ByteArray) (hg : GoD R) (hy : y.size ≤ 1000) : Calls Try.prog 33 #[.pointer (some ⟨rb, 0, none⟩), .string x, .string y] W (fun e w' => e = .returned (.int .i64 (renameD R x y).1) ∧ HasD w0 w' X rb (renameD R x y).2 pb P) := has_r h fun _ hr hl => rrename_any x y hr hg.inD hy (fun k hk => (hl k hk).2)
theorem hr_quota (q : Int) : Calls Try.prog 37 #[.pointer (some ⟨rb, 0, none⟩), .int .i64 q] W (fun e w' => e = .returned (.int .i64 (quotaD R q).1) ∧ HasD w0 w' X rb (quotaD R q).2 pb P) := has_r h fun _ hr _ => rquota_any q hr
theorem hr_arm (q : Int) : Calls Try.prog 35 #[.pointer (some ⟨rb, 0, none⟩), .int .i64 q] W (fun e w' => e = .returned (.tuple #[]) ∧ HasD w0 w' X rb (armD R q) pb P) := has_r h fun _ hr _ => rarm_any q hr
theorem hr_up (A : Option Addr) (ka kc : Nat) (keep : List Int) (hg : GoD R) (hK : IntsAt w0 A keep) (hka : ka = keep.length) (hkc : ka ≤ kc) (hkm : kc ≤ maxLen) : Calls Try.prog 26 #[.pointer (some ⟨rb, 0, none⟩), .slice A ka kc] W (fun e w' => e = .returned (.tuple #[]) ∧ HasD w0 w' X rb (upD R keep) pb P) := has_r h fun _ hr hl => rup_any A ka kc keep hr hg.inD (fun k hk => (hl k hk).2) (hK.keep h.below fun k hk => (hl k hk).1) hka hkc hkm
theorem hr_used (hg : GoD R) : Calls Try.prog 38 #[.pointer (some ⟨rb, 0, none⟩)] W (fun e w' => e = .returned (.int .i64 (usedD R.fs : Int)) ∧ HasD w0 w' X rb R pb P) := by
  obtain ⟨Or, Op, t⟩ := h
  exact (rused_any t.r hg.2.1).mono fun e w' ⟨h1, h2⟩ => ⟨h1, HasD.on ⟨Or, Op, t⟩ h2⟩
theorem hr_read (n : ByteArray) (hg : GoD R) : Calls Try.prog 39 #[.pointer (some ⟨rb, 0, none⟩), .string n] W (fun e w' => e = .returned (.tuple #[.string (readT R n), .int .i64 (readE R n)]) ∧ HasD w0 w' X rb R pb P ∧ Below W.heap.size W w') := by
  obtain ⟨Or, Op, t⟩ := h
  exact (rread13_any n t.r hg.2.1).mono fun e w' ⟨h1, h2⟩ => ⟨h1, HasD.on ⟨Or, Op, t⟩ h2, h2⟩
theorem hr_list (p : ByteArray) (hg : GoD R) : Calls Try.prog 41 #[.pointer (some ⟨rb, 0, none⟩), .string p] W (fun e w' => ∃ Y n c, e = .returned (.slice Y n c) ∧ AccS W w' (.slice Y n c) (listD R p) ∧ HasD w0 w' X rb R pb P) := by
  obtain ⟨Or, Op, t⟩ := h
  exact (rlist13_any p t.r hg.2.1).mono fun e w' ⟨Y, n, c, h1, h2⟩ => ⟨Y, n, c, h1, h2, HasD.on ⟨Or, Op, t⟩ h2.2⟩
end
end Go.Proofs.Ytaijjjlpbpogfaa
