/- Plain mathematics of CRC-32C: no program is named here. The register as 32 bits, fed bit by bit; the table of half bytes; the division of the document, bit by bit. -/
namespace Go.Proofs.YtimgbemdkajemaaDoor
namespace Crc

/-- the register's table for half a byte -/
def half (i : Nat) : Nat := [0, 274646895, 549293790, 820201905, 1098587580, 1361435347, 1640403810, 1905808397, 2197175160, 2460548119, 2722870694, 2987750089, 3280807620, 3553878443, 3811616794, 4084100981].getD i 0
theorem half_lt (i : Nat) : half i < 4294967296 := by
  by_cases h : i < 16
  · revert i; decide
  · unfold half; rw [List.getD_eq_getElem?_getD, List.getElem?_eq_none (by simp; omega)]; decide
def nib (x : Nat) : Nat := x / 16 ^^^ half (x % 16)
theorem nib_lt (x : Nat) (h : x < 4294967296) : nib x < 4294967296 := Nat.xor_lt_two_pow (n := 32) (by omega) (half_lt _)
def turn (r b : Nat) : Nat := nib (nib (r ^^^ b))
theorem turn_lt (r b : Nat) (hr : r < 4294967296) (hb : b < 256) : turn r b < 4294967296 := nib_lt _ (nib_lt _ (Nat.xor_lt_two_pow (n := 32) hr (by omega)))
def reg (r : Nat) (l : List UInt8) : Nat := l.foldl (fun r b => turn r b.toNat) r
theorem reg_lt (l : List UInt8) : ∀ r, r < 4294967296 → reg r l < 4294967296 := by
  induction l with
  | nil => intro r h; exact h
  | cons b l ih => intro r h; exact ih _ (turn_lt r _ h b.toNat_lt)
theorem reg_append (r : Nat) (a b : List UInt8) : reg r (a ++ b) = reg (reg r a) b := List.foldl_append
/-- the sum of a text -/
def crc (l : List UInt8) : Nat := 4294967295 - reg 4294967295 l
theorem crc_lt (l : List UInt8) : crc l < 4294967296 := by unfold crc; omega

/-! ### bits -/
def P : BitVec 32 := 0x82F63B78#32
def T (r : BitVec 32) : BitVec 32 := (r >>> 1) ^^^ (if r.getLsbD 0 then P else 0#32)
def one (x : Bool) : BitVec 32 := if x then 1#32 else 0#32
def step (r : BitVec 32) (x : Bool) : BitVec 32 := T (r ^^^ one x)
def feed (r : BitVec 32) (l : List Bool) : BitVec 32 := l.foldl step r
def bitsOf (b : Nat) : List Bool := (List.range 8).map b.testBit
def bits (l : List UInt8) : List Bool := l.flatMap fun b => bitsOf b.toNat

theorem T_xor (a b : BitVec 32) : T (a ^^^ b) = T a ^^^ T b := by
  unfold T
  rw [BitVec.ushiftRight_xor_distrib, BitVec.getLsbD_xor]
  have h : P ^^^ P = 0#32 := by decide
  cases a.getLsbD 0 <;> cases b.getLsbD 0 <;> simp [BitVec.xor_assoc]
  · exact BitVec.xor_comm _ _
  · rw [BitVec.xor_comm (b >>> 1) P, ← BitVec.xor_assoc P P, h]; simp
theorem T_zero : T 0#32 = 0#32 := by decide
def Tn : Nat → BitVec 32 → BitVec 32
  | 0, r => r
  | n + 1, r => Tn n (T r)
theorem Tn_xor (n : Nat) : ∀ a b, Tn n (a ^^^ b) = Tn n a ^^^ Tn n b := by
  induction n with
  | zero => intro a b; rfl
  | succ n ih => intro a b; simp only [Tn, T_xor, ih]
theorem Tn_zero (n : Nat) : Tn n 0#32 = 0#32 := by
  induction n with
  | zero => rfl
  | succ n ih => simp only [Tn, T_zero, ih]
theorem Tn_add (m n : Nat) : ∀ r, Tn (m + n) r = Tn m (Tn n r) := by
  induction n with
  | zero => intro r; rfl
  | succ n ih => intro r; exact ih (T r)
theorem T_inj0 (r : BitVec 32) (h : T r = 0#32) : r = 0#32 := by
  unfold T at h
  by_cases h0 : r.getLsbD 0
  · rw [if_pos h0] at h
    have := congrArg (fun x => BitVec.getLsbD x 31) h
    simp [P] at this
  · rw [if_neg h0] at h
    simp only [BitVec.xor_zero] at h
    apply BitVec.eq_of_getLsbD_eq
    intro i hi
    cases i with
    | zero => simpa using h0
    | succ i =>
      have := congrArg (fun x => BitVec.getLsbD x i) h
      simpa [Nat.add_comm] using this
theorem xor_eq_zero {a b : BitVec 32} : a ^^^ b = 0#32 ↔ a = b := by
  constructor
  · intro h
    have := congrArg (fun x => x ^^^ b) h
    simpa [BitVec.xor_assoc] using this
  · rintro rfl; simp
theorem T_inj {a b : BitVec 32} (h : T a = T b) : a = b := by
  rw [← xor_eq_zero] at h ⊢
  exact T_inj0 _ (by rw [T_xor]; exact h)
theorem Tn_inj (n : Nat) : ∀ {a b : BitVec 32}, Tn n a = Tn n b → a = b := by
  induction n with
  | zero => intro a b h; exact h
  | succ n ih => intro a b h; exact T_inj (ih h)

/-- an even register goes down by one place -/
theorem T_even (r : BitVec 32) (h : r.getLsbD 0 = false) : T r = r >>> 1 := by unfold T; rw [h]; simp

theorem T_low (r c : BitVec 32) : T (r ^^^ c) = step r (c.getLsbD 0) ^^^ (c >>> 1) := by
  have e : c = one (c.getLsbD 0) ^^^ (c ^^^ one (c.getLsbD 0)) := by
    rw [BitVec.xor_comm c, ← BitVec.xor_assoc]; simp
  have e2 : T (c ^^^ one (c.getLsbD 0)) = c >>> 1 := by
    rw [T_even]
    · rw [BitVec.ushiftRight_xor_distrib]
      have : one (c.getLsbD 0) >>> 1 = 0#32 := by cases c.getLsbD 0 <;> decide
      rw [this]; simp
    · rw [BitVec.getLsbD_xor]
      cases c.getLsbD 0 <;> decide
  calc T (r ^^^ c) = T (r ^^^ (one (c.getLsbD 0) ^^^ (c ^^^ one (c.getLsbD 0)))) := by rw [← e]
    _ = T (r ^^^ one (c.getLsbD 0)) ^^^ T (c ^^^ one (c.getLsbD 0)) := by rw [← BitVec.xor_assoc, T_xor]
    _ = _ := by rw [e2]; rfl

theorem Tn_feed (n : Nat) : ∀ (r c : BitVec 32), Tn n (r ^^^ c) = feed r ((List.range n).map c.getLsbD) ^^^ (c >>> n) := by
  induction n with
  | zero => intro r c; simp [Tn, feed]
  | succ n ih =>
    intro r c
    have e : (List.range (n + 1)).map c.getLsbD = c.getLsbD 0 :: (List.range n).map (c >>> 1).getLsbD := by
      rw [List.range_succ_eq_map]
      simp [Function.comp_def, Nat.add_comm]
    show Tn n (T (r ^^^ c)) = _
    rw [T_low, ih, e]
    show feed (step r (c.getLsbD 0)) _ ^^^ _ = feed (step r (c.getLsbD 0)) _ ^^^ _
    rw [← BitVec.shiftRight_add, Nat.add_comm]

theorem nib_T (r : BitVec 32) : nib r.toNat = (Tn 4 r).toNat := by
  have hlow : ∀ d, d < 16 → Tn 4 (BitVec.ofNat 32 d) = BitVec.ofNat 32 (half d) := by decide +kernel
  have hr : r = ((r >>> 4) <<< 4) ^^^ BitVec.ofNat 32 (r.toNat % 16) := by
    apply BitVec.eq_of_getLsbD_eq
    intro i hi
    simp only [BitVec.getLsbD_xor, BitVec.getLsbD_shiftLeft, BitVec.getLsbD_ushiftRight, BitVec.getLsbD_ofNat]
    have : (16 : Nat) = 2 ^ 4 := rfl
    rw [this, Nat.testBit_mod_two_pow]
    by_cases h4 : i < 4
    · simp [h4, hi, BitVec.getLsbD]
    · have : 4 + (i - 4) = i := by omega
      simp [h4, hi, this]
  have hhi : Tn 4 ((r >>> 4) <<< 4) = r >>> 4 := by
    have e : ∀ (x : BitVec 32) k, k < 4 → ((x >>> 4) <<< (k + 1)) = (x >>> 4) <<< (k + 1) ∧ T ((x >>> 4) <<< (k + 1)) = (x >>> 4) <<< k := by
      intro x k hk
      refine ⟨rfl, ?_⟩
      rw [T_even]
      · apply BitVec.eq_of_getLsbD_eq
        intro i hi
        simp only [BitVec.getLsbD_shiftLeft, BitVec.getLsbD_ushiftRight]
        by_cases h1 : i < k
        · have : 1 + i < k + 1 := by omega
          simp [h1, this]
        · have h2 : ¬ (1 + i < k + 1) := by omega
          have h3 : 1 + i - (k + 1) = i - k := by omega
          simp only [h1, h2, h3, decide_false, Bool.not_false, Bool.and_true, hi, decide_true, Bool.true_and]
          by_cases h5 : 1 + i < 32
          · simp [h5]
          · have : 32 ≤ 4 + (i - k) := by omega
            simp [BitVec.getLsbD_of_ge _ _ this]
      · simp
    simp only [Tn]
    rw [(e r 3 (by omega)).2, (e r 2 (by omega)).2, (e r 1 (by omega)).2, (e r 0 (by omega)).2]
    simp
  rw [hr, Tn_xor, hhi, hlow _ (by omega), ← hr, BitVec.toNat_xor, BitVec.toNat_ushiftRight, BitVec.toNat_ofNat, Nat.mod_eq_of_lt (half_lt _)]
  rw [Nat.shiftRight_eq_div_pow]
  rfl

theorem turn_feed (r : BitVec 32) (b : Nat) (hb : b < 256) : turn r.toNat b = (feed r (bitsOf b)).toNat := by
  have e : r.toNat ^^^ b = (r ^^^ BitVec.ofNat 32 b).toNat := by
    rw [BitVec.toNat_xor, BitVec.toNat_ofNat, Nat.mod_eq_of_lt (by omega)]
  unfold turn
  rw [e, nib_T, nib_T, ← Tn_add, Tn_feed]
  have z : BitVec.ofNat 32 b >>> (4 + 4) = 0#32 := by
    apply BitVec.eq_of_toNat_eq
    rw [BitVec.toNat_ushiftRight, BitVec.toNat_ofNat, Nat.mod_eq_of_lt (by omega), Nat.shiftRight_eq_div_pow]
    simp; omega
  rw [z, BitVec.xor_zero]
  have : (List.range (4 + 4)).map (BitVec.ofNat 32 b).getLsbD = bitsOf b := by
    unfold bitsOf
    apply List.map_congr_left
    intro i hi
    have hi' : i < 8 := by simpa using hi
    rw [BitVec.getLsbD_ofNat]
    simp; omega
  rw [this]
theorem feed_append (r : BitVec 32) (a b : List Bool) : feed r (a ++ b) = feed (feed r a) b := List.foldl_append
theorem reg_feed (l : List UInt8) : ∀ r : BitVec 32, reg r.toNat l = (feed r (bits l)).toNat := by
  induction l with
  | nil => intro r; rfl
  | cons b l ih =>
    intro r
    show reg (turn r.toNat b.toNat) l = (feed r (bitsOf b.toNat ++ bits l)).toNat
    rw [turn_feed r _ b.toNat_lt, ih, feed_append]
theorem not32 (r : Nat) (h : r < 4294967296) : 4294967295 ^^^ r = 4294967295 - r := by
  apply Nat.eq_of_testBit_eq
  intro j
  have e2 : 4294967295 - r = 2 ^ 32 - (r + 1) := by omega
  have e3 : (4294967295 : Nat) = 2 ^ 32 - (0 + 1) := by decide
  rw [e2, Nat.testBit_two_pow_sub_succ (by omega), Nat.testBit_xor, e3, Nat.testBit_two_pow_sub_succ (by omega)]
  by_cases hj : j < 32
  · simp [hj]
  · have : r.testBit j = false := Nat.testBit_lt_two_pow (Nat.lt_of_lt_of_le h (by rw [show (4294967296 : Nat) = 2 ^ 32 from rfl]; exact Nat.pow_le_pow_right (by omega) (by omega)))
    simp [hj, this]
end Crc
end Go.Proofs.YtimgbemdkajemaaDoor
