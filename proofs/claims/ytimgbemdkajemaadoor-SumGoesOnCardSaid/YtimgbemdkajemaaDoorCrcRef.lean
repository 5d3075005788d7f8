/- Plain mathematics: the document's division, bit by bit, gives the register turned round. -/
import Derived.Test.YtimgbemdkajemaaDoorCrc
namespace Go.Proofs.YtimgbemdkajemaaDoor
namespace Crc
/-- one step of the division -/
def refBit (l bit : Nat) : Nat :=
  if 4294967296 ≤ l * 2 ^^^ bit * 4294967296 then l * 2 ^^^ bit * 4294967296 ^^^ 4294967296 ^^^ 517762881 else l * 2 ^^^ bit * 4294967296
/-- k steps for a byte's k lowest bits -/
def refBits (b : Nat) : Nat → Nat → Nat
  | l, 0 => l
  | l, k + 1 => refBit (refBits b l k) (b / 2 ^ k % 2)
def refReg (l : Nat) (bs : List UInt8) : Nat := bs.foldl (fun l b => refBits b.toNat l 8) l
/-- the bits turned round, and each one turned -/
def refOut (l : Nat) : Nat → Nat
  | 0 => 0
  | k + 1 => if l / 2 ^ k % 2 = 0 then refOut l k ||| 2 ^ (31 - k) else refOut l k
def refCrc (bs : List UInt8) : Nat := refOut (refReg 4294967295 bs) 32

def Rel (l : Nat) (r : BitVec 32) : Prop := l < 4294967296 ∧ ∀ i, i < 32 → l.testBit i = r.getLsbD (31 - i)

theorem rel_step {l : Nat} {r : BitVec 32} (h : Rel l r) (x : Bool) : Rel (refBit l x.toNat) (step r x) := by
  obtain ⟨hl, hb⟩ := h
  have hmul : ∀ i, (l * 2).testBit i = (decide (1 ≤ i) && l.testBit (i - 1)) := by
    intro i
    have : l * 2 = 2 ^ 1 * l := by omega
    rw [this, Nat.testBit_two_pow_mul]
  have hx : ∀ i, (x.toNat * 4294967296).testBit i = (decide (i = 32) && x) := by
    intro i
    have : x.toNat * 4294967296 = 2 ^ 32 * x.toNat := by omega
    rw [this, Nat.testBit_two_pow_mul]
    cases x
    · simp
    · by_cases h32 : i = 32
      · subst h32; rfl
      · by_cases h : 32 ≤ i
        · have : (1 : Nat).testBit (i - 32) = false := Nat.testBit_lt_two_pow (Nat.one_lt_two_pow (by omega))
          simp [h32, this]
        · simp [h32, h]
  have hlb : ∀ i, 32 ≤ i → l.testBit i = false := fun i hi => Nat.testBit_lt_two_pow (Nat.lt_of_lt_of_le hl (by rw [show (4294967296 : Nat) = 2 ^ 32 from rfl]; exact Nat.pow_le_pow_right (by omega) hi))
  generalize hX : l * 2 ^^^ x.toNat * 4294967296 = X
  have hXb : ∀ i, X.testBit i = ((decide (1 ≤ i) && l.testBit (i - 1)) ^^ (decide (i = 32) && x)) := by
    intro i; rw [← hX, Nat.testBit_xor, hmul, hx]
  have hXlt : X < 2 ^ 33 := by
    rw [← hX]
    refine Nat.xor_lt_two_pow ?_ ?_
    · omega
    · cases x <;> decide
  have hX32 : X.testBit 32 = (r.getLsbD 0 ^^ x) := by
    rw [hXb]; simp [hb 31 (by omega)]
  have hcond : (4294967296 ≤ X) ↔ X.testBit 32 = true := by
    have e : X = X % 2 ^ 32 + 2 ^ 32 * (X / 2 ^ 32) := by omega
    rw [Nat.testBit_eq_decide_div_mod_eq]
    simp; omega
  have hstep : ∀ j, j < 32 → (step r x).getLsbD j = ((decide (j < 31) && r.getLsbD (j + 1)) ^^ ((r.getLsbD 0 ^^ x) && P.getLsbD j)) := by
    intro j hj
    unfold step T
    have ho : one x >>> 1 = 0#32 := by cases x <;> decide
    have ho0 : (one x).getLsbD 0 = x := by cases x <;> decide
    rw [BitVec.ushiftRight_xor_distrib, ho, BitVec.xor_zero, BitVec.getLsbD_xor, BitVec.getLsbD_xor, BitVec.getLsbD_ushiftRight, ho0]
    congr 1
    · by_cases h31 : j < 31
      · simp [h31, Nat.add_comm]
      · have : 32 ≤ 1 + j := by omega
        rw [BitVec.getLsbD_of_ge _ _ this]; simp [h31]
    · cases (r.getLsbD 0 ^^ x) <;> simp
  have hPQ : ∀ i, i < 32 → (517762881 : Nat).testBit i = P.getLsbD (31 - i) := by decide
  have hQ : ∀ i, 32 ≤ i → (517762881 : Nat).testBit i = false := fun i hi => Nat.testBit_lt_two_pow (Nat.lt_of_lt_of_le (by decide : 517762881 < 2 ^ 32) (Nat.pow_le_pow_right (by omega) hi))
  have hp32 : ∀ i, (4294967296 : Nat).testBit i = decide (i = 32) := by
    intro i
    rw [show (4294967296 : Nat) = 2 ^ 32 from rfl, Nat.testBit_two_pow]
    simp [eq_comm]
  have hlow : ∀ i, i < 32 → (X.testBit i ^^ ((r.getLsbD 0 ^^ x) && (517762881 : Nat).testBit i)) = (step r x).getLsbD (31 - i) := by
    intro i hi
    rw [hXb, hstep _ (by omega), hPQ i hi]
    congr 1
    have h1 : i ≠ 32 := by omega
    simp only [h1, decide_false, Bool.false_and, Bool.xor_false]
    by_cases h0 : 1 ≤ i
    · have h2 : 31 - i < 31 := by omega
      rw [hb (i - 1) (by omega)]
      have : 31 - (i - 1) = 31 - i + 1 := by omega
      simp [h0, h2, this]
    · have : i = 0 := by omega
      subst this; simp
  unfold refBit
  rw [hX]
  by_cases hc : 4294967296 ≤ X
  · rw [if_pos hc]
    have h32 := hcond.1 hc
    rw [hX32] at h32
    constructor
    · refine Nat.lt_pow_two_of_testBit (n := 32) _ fun j hj => ?_
      rw [Nat.testBit_xor, Nat.testBit_xor, hp32, hQ j hj]
      by_cases h1 : j = 32
      · subst h1; rw [hX32, h32]; simp
      · have : X.testBit j = false := Nat.testBit_lt_two_pow (Nat.lt_of_lt_of_le hXlt (Nat.pow_le_pow_right (by omega) (by omega)))
        rw [this]; simp [h1]
    · intro i hi
      rw [← hlow i hi, Nat.testBit_xor, Nat.testBit_xor, hp32, h32]
      have : i ≠ 32 := by omega
      simp [this]
  · rw [if_neg hc]
    have h32 : X.testBit 32 = false := by simpa using (not_congr hcond).1 hc
    rw [hX32] at h32
    refine ⟨by omega, fun i hi => ?_⟩
    rw [← hlow i hi, h32]; simp

theorem rel_bits (b : Nat) {l : Nat} {r : BitVec 32} (h : Rel l r) (k : Nat) : Rel (refBits b l k) (feed r ((List.range k).map b.testBit)) := by
  induction k with
  | zero => exact h
  | succ k ih =>
    rw [List.range_succ, List.map_append, feed_append]
    have e : b / 2 ^ k % 2 = (b.testBit k).toNat := by
      rw [Nat.testBit_eq_decide_div_mod_eq]
      have : b / 2 ^ k % 2 = 0 ∨ b / 2 ^ k % 2 = 1 := by omega
      rcases this with h | h <;> simp [h]
    show Rel (refBit (refBits b l k) (b / 2 ^ k % 2)) _
    rw [e]
    exact rel_step ih _
theorem rel_reg (bs : List UInt8) : ∀ {l : Nat} {r : BitVec 32}, Rel l r → Rel (refReg l bs) (feed r (bits bs)) := by
  induction bs with
  | nil => intro l r h; exact h
  | cons b bs ih =>
    intro l r h
    show Rel (refReg (refBits b.toNat l 8) bs) (feed r (bitsOf b.toNat ++ bits bs))
    rw [feed_append]
    exact ih (rel_bits b.toNat h 8)
theorem out_bit (l : Nat) (k : Nat) (hk : k ≤ 32) (j : Nat) : (refOut l k).testBit j = (decide (32 - k ≤ j) && decide (j < 32) && !l.testBit (31 - j)) := by
  induction k with
  | zero =>
    simp only [refOut, Nat.zero_testBit]
    by_cases h : j < 32
    · have : ¬ 32 ≤ j := by omega
      simp [this]
    · simp [h]
  | succ k ih =>
    have ih := ih (by omega)
    have e : l.testBit k = decide (l / 2 ^ k % 2 = 1) := Nat.testBit_eq_decide_div_mod_eq
    unfold refOut
    by_cases hz : l / 2 ^ k % 2 = 0
    · rw [if_pos hz, Nat.testBit_or, ih, Nat.testBit_two_pow]
      by_cases hj : j = 31 - k
      · subst hj
        have h1 : 31 - (31 - k) = k := by omega
        have h2 : 32 - (k + 1) ≤ 31 - k := by omega
        have h3 : 31 - k < 32 := by omega
        rw [h1, e, hz, decide_eq_true h2, decide_eq_true h3]; simp
      · have h1 : ¬ (31 - k = j) := fun h => hj h.symm
        have h2 : (32 - (k + 1) ≤ j) ↔ (32 - k ≤ j) := by omega
        have h5 : decide (32 - (k + 1) ≤ j) = decide (32 - k ≤ j) := decide_eq_decide.2 h2
        rw [h5]; simp [h1]
    · rw [if_neg hz, ih]
      by_cases hj : j = 31 - k
      · subst hj
        have h1 : 31 - (31 - k) = k := by omega
        have h4 : l / 2 ^ k % 2 = 1 := by omega
        rw [h1, e, h4]; simp
      · have h2 : (32 - (k + 1) ≤ j) ↔ (32 - k ≤ j) := by omega
        have h5 : decide (32 - (k + 1) ≤ j) = decide (32 - k ≤ j) := decide_eq_decide.2 h2
        rw [h5]
/-- the document's answer is the program's -/
theorem refCrc_eq (bs : List UInt8) : refCrc bs = crc bs := by
  have h0 : Rel 4294967295 (4294967295#32) := ⟨by decide, by decide⟩
  have h := (rel_reg bs h0).2
  have e : reg 4294967295 bs = (feed (4294967295#32) (bits bs)).toNat := reg_feed bs 4294967295#32
  unfold refCrc crc
  rw [e]
  generalize refReg 4294967295 bs = l at h
  generalize feed (4294967295#32) (bits bs) = r at h
  apply Nat.eq_of_testBit_eq
  intro j
  rw [out_bit _ _ (by omega)]
  have e2 : 4294967295 - r.toNat = 2 ^ 32 - (r.toNat + 1) := by omega
  rw [e2, Nat.testBit_two_pow_sub_succ r.isLt]
  by_cases hj : j < 32
  · rw [h (31 - j) (by omega)]
    have : 31 - (31 - j) = j := by omega
    simp [hj, this, BitVec.getLsbD]
  · simp [hj]
end Crc
end Go.Proofs.YtimgbemdkajemaaDoor
