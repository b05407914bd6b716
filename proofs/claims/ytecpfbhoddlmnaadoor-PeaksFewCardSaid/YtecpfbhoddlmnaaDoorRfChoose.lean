/- The reference's choice and majority are the program's: 'or' and 'xor' of parts that don't meet. -/
import Derived.Test.YtecpfbhoddlmnaaDoorRfMath
namespace Go.Proofs.YtecpfbhoddlmnaaDoor
open Go.RowKit

theorem kmax (k : IntKind) (hk : Kd k) : k.max = ((2 ^ k.bits - 1 : Nat) : Int) := by
  rcases hk with rfl | rfl <;> decide
theorem Wd.max {k : IntKind} (hk : Kd k) : Wd k k.max := by
  rcases hk with rfl | rfl <;> exact ⟨by decide, by decide⟩
theorem Wd.nat {k : IntKind} {x : Int} (h : Wd k x) : ∃ n : Nat, x = n ∧ n < 2 ^ k.bits := by
  obtain ⟨n, rfl⟩ := Int.eq_ofNat_of_zero_le h.1
  exact ⟨n, rfl, by have := h.2; exact_mod_cast this⟩
theorem ch_nat (n e f g : Nat) (he : e < 2 ^ n) : (e &&& f) ||| (((2 ^ n - 1) ^^^ e) &&& g) = (e &&& f) ^^^ (((2 ^ n - 1) ^^^ e) &&& g) := by
  apply Nat.eq_of_testBit_eq
  intro i
  simp only [Nat.testBit_or, Nat.testBit_and, Nat.testBit_xor, Nat.testBit_two_pow_sub_one]
  by_cases hi : i < n
  · rw [decide_eq_true hi]
    cases e.testBit i <;> cases f.testBit i <;> cases g.testBit i <;> rfl
  · have h : e.testBit i = false := Nat.testBit_lt_two_pow (Nat.lt_of_lt_of_le he (Nat.pow_le_pow_right (by omega) (by omega)))
    rw [decide_eq_false hi, h]
    cases f.testBit i <;> cases g.testBit i <;> rfl
theorem maj_nat (a b c : Nat) : (a &&& b) ||| (a &&& c) ||| (b &&& c) = (a &&& b) ^^^ (a &&& c) ^^^ (b &&& c) := by
  apply Nat.eq_of_testBit_eq
  intro i
  simp only [Nat.testBit_or, Nat.testBit_and, Nat.testBit_xor]
  cases a.testBit i <;> cases b.testBit i <;> cases c.testBit i <;> rfl
/-- Each of e's bits chooses between f's and g's. -/
theorem ch_val {k : IntKind} (hk : Kd k) {e f g : Int} (he : Wd k e) (hf : Wd k f) (hg : Wd k g) :
    bits .or .u64 (bits .and .u64 e f) (bits .and .u64 (bits .xor .u64 k.max e) g) = chK k e f g ∧ Wd k (chK k e f g) := by
  have h1 := he.and hk hf
  have h2 := (Wd.max hk).xor hk he
  have h3 := h2.1.and hk hg
  have h4 := h1.1.xor hk h3.1
  have h5 := h1.1.or hk h3.1
  have e1 : notK k e = xorK k k.max e := rfl
  rw [h1.2, h2.2, h3.2, h5.2]
  unfold chK
  rw [e1]
  refine ⟨?_, h4.1⟩
  obtain ⟨e, rfl, hen⟩ := he.nat
  obtain ⟨f, rfl, hfn⟩ := hf.nat
  obtain ⟨g, rfl, hgn⟩ := hg.nat
  have a1 : andK k (e : Int) f = ((e &&& f : Nat) : Int) := by unfold andK; rw [bits_and k hk _ _ he hf]; rfl
  have a2 : xorK k k.max (e : Int) = (((2 ^ k.bits - 1) ^^^ e : Nat) : Int) := by
    have hm := Wd.max hk
    unfold xorK
    rw [bits_xor k hk _ _ hm he, kmax k hk]
    rfl
  have a3 : andK k (xorK k k.max (e : Int)) g = ((((2 ^ k.bits - 1) ^^^ e) &&& g : Nat) : Int) := by
    have := h2.1
    rw [a2] at this ⊢
    unfold andK
    rw [bits_and k hk _ _ this hg]
    rfl
  have b1 := h1.1
  have b3 := h3.1
  rw [a1] at b1
  rw [a3] at b3
  rw [a1, a3, bits_or k hk _ _ b1 b3]
  unfold xorK
  rw [bits_xor k hk _ _ b1 b3, Int.toNat_natCast, Int.toNat_natCast, ch_nat k.bits e f g hen]
/-- The majority of three. -/
theorem maj_val {k : IntKind} (hk : Kd k) {a b c : Int} (ha : Wd k a) (hb : Wd k b) (hc : Wd k c) :
    bits .or .u64 (bits .or .u64 (bits .and .u64 a b) (bits .and .u64 a c)) (bits .and .u64 b c) = majK k a b c ∧ Wd k (majK k a b c) := by
  have h1 := ha.and hk hb
  have h2 := ha.and hk hc
  have h3 := hb.and hk hc
  have h4 := h1.1.or hk h2.1
  have h5 := h4.1.or hk h3.1
  have h6 := h1.1.xor hk h2.1
  have h7 := h6.1.xor hk h3.1
  rw [h1.2, h2.2, h3.2, h4.2, h5.2]
  unfold majK
  refine ⟨?_, h7.1⟩
  obtain ⟨a, rfl, -⟩ := ha.nat
  obtain ⟨b, rfl, -⟩ := hb.nat
  obtain ⟨c, rfl, -⟩ := hc.nat
  have a1 : andK k (a : Int) b = ((a &&& b : Nat) : Int) := by unfold andK; rw [bits_and k hk _ _ ha hb]; rfl
  have a2 : andK k (a : Int) c = ((a &&& c : Nat) : Int) := by unfold andK; rw [bits_and k hk _ _ ha hc]; rfl
  have a3 : andK k (b : Int) c = ((b &&& c : Nat) : Int) := by unfold andK; rw [bits_and k hk _ _ hb hc]; rfl
  have b1 := h1.1
  have b2 := h2.1
  have b3 := h3.1
  have b4 := h4.1
  have b6 := h6.1
  rw [a1] at b1 b4 b6
  rw [a2] at b2 b4 b6
  rw [a3] at b3
  rw [a1, a2, a3]
  have e4 : bits .or k ((a &&& b : Nat) : Int) ((a &&& c : Nat) : Int) = (((a &&& b) ||| (a &&& c) : Nat) : Int) := by rw [bits_or k hk _ _ b1 b2]; rfl
  have e6 : xorK k ((a &&& b : Nat) : Int) ((a &&& c : Nat) : Int) = (((a &&& b) ^^^ (a &&& c) : Nat) : Int) := by unfold xorK; rw [bits_xor k hk _ _ b1 b2]; rfl
  rw [e4] at b4 ⊢
  rw [e6] at b6 ⊢
  rw [bits_or k hk _ _ b4 b3]
  unfold xorK
  rw [bits_xor k hk _ _ b6 b3, Int.toNat_natCast, Int.toNat_natCast, Int.toNat_natCast, maj_nat]
end Go.Proofs.YtecpfbhoddlmnaaDoor
