/- Plain mathematics: two unlike texts of one length, sealed, are unlike in four bits at least, and not within 32 bits alone. -/
import Derived.Test.YtimgbemdkajemaaDoorCrcMore
namespace Go.Proofs.YtimgbemdkajemaaDoor
namespace Crc
/-! ### a row of bits as a function -/
def G (D : Nat → Bool) (r : BitVec 32) : Nat → BitVec 32
  | 0 => r
  | p + 1 => step (G D r p) (D p)
theorem feed_range (D : Nat → Bool) (r : BitVec 32) (n : Nat) : feed r ((List.range n).map D) = G D r n := by
  induction n with
  | zero => rfl
  | succ n ih => rw [List.range_succ, List.map_append, feed_append, ih]; rfl
theorem one_xor (x y : Bool) : one x ^^^ one y = one (x ^^ y) := by cases x <;> cases y <;> decide
theorem step_xor (r s : BitVec 32) (x y : Bool) : step r x ^^^ step s y = step (r ^^^ s) (x ^^ y) := by
  unfold step
  rw [← T_xor, ← one_xor]
  congr 1
  rw [BitVec.xor_assoc, ← BitVec.xor_assoc (one x), BitVec.xor_comm (one x) s, BitVec.xor_assoc s, ← BitVec.xor_assoc r s]
theorem G_xor (D E : Nat → Bool) (r s : BitVec 32) (n : Nat) : G D r n ^^^ G E s n = G (fun p => D p ^^ E p) (r ^^^ s) n := by
  induction n with
  | zero => rfl
  | succ n ih => show step _ _ ^^^ step _ _ = step _ _; rw [step_xor, ih]
theorem G_shift (D : Nat → Bool) (r : BitVec 32) (a b : Nat) : G D r (a + b) = G (fun p => D (a + p)) (G D r a) b := by
  induction b with
  | zero => rfl
  | succ b ih =>
    show step (G D r (a + b)) (D (a + b)) = step (G (fun p => D (a + p)) (G D r a) b) (D (a + b))
    rw [ih]
theorem G_congr {D E : Nat → Bool} (r : BitVec 32) (n : Nat) (h : ∀ p, p < n → D p = E p) : G D r n = G E r n := by
  induction n with
  | zero => rfl
  | succ n ih => show step _ _ = step _ _; rw [ih (fun p hp => h p (by omega)), h n (by omega)]
theorem T_Tn (k : Nat) (r : BitVec 32) : T (Tn k r) = Tn k (T r) := by
  induction k generalizing r with
  | zero => rfl
  | succ k ih => exact ih (T r)
theorem step_false (r : BitVec 32) : step r false = T r := by unfold step one; simp
theorem G_zeros (r : BitVec 32) (n : Nat) : G (fun _ => false) r n = Tn n r := by
  induction n with
  | zero => rfl
  | succ n ih => show step _ false = _; rw [ih, step_false, T_Tn]; rfl
theorem G_none (D : Nat → Bool) (r : BitVec 32) (n : Nat) (h : ∀ p, p < n → D p = false) : G D r n = Tn n r := by
  rw [G_congr r n h, G_zeros]
theorem Tn_eq_zero {n : Nat} {r : BitVec 32} (h : Tn n r = 0#32) : r = 0#32 := Tn_inj n (by rw [h, Tn_zero])

/-! ### parity -/
def par (r : BitVec 32) : Nat → Bool
  | 0 => false
  | n + 1 => par r n ^^ r.getLsbD n
theorem par_xor (a b : BitVec 32) (n : Nat) : par (a ^^^ b) n = (par a n ^^ par b n) := by
  induction n with
  | zero => rfl
  | succ n ih =>
    simp only [par, ih, BitVec.getLsbD_xor]
    cases par a n <;> cases par b n <;> cases a.getLsbD n <;> cases b.getLsbD n <;> rfl
theorem par_shift (r : BitVec 32) (n : Nat) : par (r >>> 1) n = (par r (n + 1) ^^ r.getLsbD 0) := by
  induction n with
  | zero => simp [par]
  | succ n ih =>
    show (par (r >>> 1) n ^^ (r >>> 1).getLsbD n) = ((par r (n + 1) ^^ r.getLsbD (n + 1)) ^^ r.getLsbD 0)
    rw [ih, BitVec.getLsbD_ushiftRight, Nat.add_comm 1 n]
    cases par r (n + 1) <;> cases r.getLsbD 0 <;> cases r.getLsbD (n + 1) <;> rfl
theorem par_T (r : BitVec 32) : par (T r) 32 = par r 32 := by
  unfold T
  rw [par_xor, par_shift]
  have h33 : par r (32 + 1) = par r 32 := by
    show (par r 32 ^^ r.getLsbD 32) = _
    rw [BitVec.getLsbD_of_ge _ _ (by omega)]; simp
  have hP : par P 32 = true := by decide
  have h0 : par 0#32 32 = false := by decide
  rw [h33]
  cases r.getLsbD 0
  · simp [h0]
  · simp [hP]
def M (D : Nat → Bool) : Nat → Nat
  | 0 => 0
  | p + 1 => M D p + (if D p then 1 else 0)
theorem par_G (D : Nat → Bool) (n : Nat) : par (G D 0#32 n) 32 = decide (M D n % 2 = 1) := by
  induction n with
  | zero =>
    have h0 : par 0#32 32 = false := by decide
    show par 0#32 32 = _
    rw [h0]; simp [M]
  | succ n ih =>
    show par (T (G D 0#32 n ^^^ one (D n))) 32 = decide ((M D n + (if D n then 1 else 0)) % 2 = 1)
    rw [par_T, par_xor, ih]
    have h1 : par (one true) 32 = true := by decide
    have h0 : par (one false) 32 = false := by decide
    cases D n
    · rw [h0]; simp
    · rw [h1]
      have : M D n % 2 = 0 ∨ M D n % 2 = 1 := by omega
      rcases this with h | h
      · have h2 : (M D n + 1) % 2 = 1 := by omega
        simp [h, h2]
      · have h2 : (M D n + 1) % 2 = 0 := by omega
        simp [h, h2]

/-! ### the order of the register's step -/
def hor (v A : BitVec 32) : Nat → BitVec 32
  | 0 => 0#32
  | i + 1 => T (hor v A i) ^^^ (if v.getLsbD i then A else 0#32)
theorem T_hor (v A : BitVec 32) (i : Nat) : T (hor v A i) = hor v (T A) i := by
  induction i with
  | zero => exact T_zero
  | succ i ih =>
    show T (T (hor v A i) ^^^ _) = T (hor v (T A) i) ^^^ _
    rw [T_xor, ih]
    cases v.getLsbD i
    · simp [T_zero]
    · simp
theorem Tn_hor (n : Nat) (v : BitVec 32) (i : Nat) : ∀ A, Tn n (hor v A i) = hor v (Tn n A) i := by
  induction n with
  | zero => intro A; rfl
  | succ n ih => intro A; show Tn n (T (hor v A i)) = _; rw [T_hor, ih]; rfl
def top : BitVec 32 := 0x80000000#32
theorem hor_top (v : BitVec 32) (i : Nat) (hi : i ≤ 32) : hor v top i = v <<< (32 - i) := by
  induction i with
  | zero =>
    apply BitVec.eq_of_getLsbD_eq
    intro j hj
    rw [BitVec.getLsbD_shiftLeft]
    have : j < 32 - 0 := by omega
    simp [hor, this]
  | succ i ih =>
    show T (hor v top i) ^^^ _ = _
    rw [ih (by omega)]
    rw [T_even]
    · apply BitVec.eq_of_getLsbD_eq
      intro j hj
      have htop : ∀ j, j < 32 → top.getLsbD j = decide (j = 31) := by decide
      have hite : (if v.getLsbD i then top else 0#32).getLsbD j = (v.getLsbD i && decide (j = 31)) := by
        cases v.getLsbD i
        · simp
        · simp [htop j hj]
      rw [BitVec.getLsbD_xor, hite, BitVec.getLsbD_ushiftRight, BitVec.getLsbD_shiftLeft, BitVec.getLsbD_shiftLeft]
      by_cases h31 : j = 31
      · subst h31
        have h1 : ¬ (1 + 31 < 32) := by omega
        have h2 : ¬ (31 < 32 - (i + 1)) := by omega
        have h3 : 31 - (32 - (i + 1)) = i := by omega
        rw [h3, decide_eq_false h1, decide_eq_false h2]; simp
      · have h1 : 1 + j < 32 := by omega
        have h2 : (1 + j < 32 - i) ↔ (j < 32 - (i + 1)) := by omega
        have h3 : 1 + j - (32 - i) = j - (32 - (i + 1)) := by omega
        have h5 : decide (1 + j < 32 - i) = decide (j < 32 - (i + 1)) := decide_eq_decide.2 h2
        rw [h5, h3, decide_eq_true h1, decide_eq_true hj, decide_eq_false h31]; simp
    · rw [BitVec.getLsbD_shiftLeft]
      have : 0 < 32 - i := by omega
      simp [this]
theorem Tn_by (n : Nat) (v : BitVec 32) : Tn n v = hor v (Tn n top) 32 := by
  have h : hor v top 32 = v := by
    rw [hor_top v 32 (by omega)]; simp
  have := Tn_hor n v 32 top
  rw [h] at this
  exact this
def sq (A : BitVec 32) : BitVec 32 := hor A A 32
def sqn : Nat → BitVec 32 → BitVec 32
  | 0, A => A
  | n + 1, A => sq (sqn n A)
theorem sqn_Tn (k : Nat) : sqn k (T top) = Tn (2 ^ k) top := by
  induction k with
  | zero => rfl
  | succ k ih =>
    show sq (sqn k (T top)) = _
    rw [ih, Nat.pow_succ, Nat.mul_two, Tn_add]
    exact (Tn_by (2 ^ k) (Tn (2 ^ k) top)).symm
theorem sqn_31 : sqn 31 (T top) = T top := by decide +kernel
theorem Tn_all_aux (n : Nat) (hn : n + 1 = 2 ^ 31) (r : BitVec 32) : Tn n r = r := by
  have h : Tn (2 ^ 31) top = T top := by rw [← sqn_Tn, sqn_31]
  rw [← hn] at h
  have h3 : T (Tn n top) = T top := by rw [T_Tn]; exact h
  have h4 : Tn n top = top := T_inj h3
  rw [Tn_by, h4, hor_top r 32 (by omega)]; simp
theorem Tn_all (r : BitVec 32) : Tn 2147483647 r = r := Tn_all_aux 2147483647 (by decide) r
theorem Tn_mul {m : Nat} {r : BitVec 32} (h : Tn m r = r) (q : Nat) : Tn (m * q) r = r := by
  induction q with
  | zero => rfl
  | succ q ih => rw [Nat.mul_succ, Tn_add, h, ih]
theorem Tn_gcd (m n : Nat) {r : BitVec 32} : Tn m r = r → Tn n r = r → Tn (Nat.gcd m n) r = r := by
  induction m, n using Nat.gcd.induction with
  | H0 n => intro _ h; rw [Nat.gcd_zero_left]; exact h
  | H1 m n hm ih =>
    intro h1 h2
    rw [Nat.gcd_rec]
    refine ih ?_ h1
    have e : n % m + m * (n / m) = n := Nat.mod_add_div n m
    have h3 : Tn (n % m + m * (n / m)) r = r := by rw [e]; exact h2
    rw [Tn_add, Tn_mul h1] at h3
    exact h3
def chkIn (base : Nat) : Nat → Bool
  | 0 => true
  | n + 1 => (2147483647 % (base + n + 2) != 0) && chkIn base n
def chk : Nat → Bool
  | 0 => true
  | n + 1 => chkIn (216 * n) 216 && chk n
theorem chk_all : chk 216 = true := by decide +kernel
theorem chkIn_of {base n : Nat} (h : chkIn base n = true) : ∀ j, j < n → 2147483647 % (base + j + 2) ≠ 0 := by
  induction n with
  | zero => intro j hj; omega
  | succ n ih =>
    simp only [chkIn, Bool.and_eq_true, bne_iff_ne] at h
    intro j hj
    by_cases e : j = n
    · subst e; exact h.1
    · exact ih h.2 j (by omega)
theorem chk_of {n : Nat} (h : chk n = true) : ∀ d, d < 216 * n → 2147483647 % (d + 2) ≠ 0 := by
  induction n with
  | zero => intro d hd; omega
  | succ n ih =>
    simp only [chk, Bool.and_eq_true] at h
    intro d hd
    by_cases e : d < 216 * n
    · exact ih h.2 d e
    · have := chkIn_of h.1 (d - 216 * n) (by omega)
      have e2 : 216 * n + (d - 216 * n) + 2 = d + 2 := by omega
      rw [e2] at this; exact this
theorem no_div (d : Nat) (h2 : 2 ≤ d) (hd : d ≤ 46340) : ¬ d ∣ 2147483647 := by
  intro h
  have := chk_of chk_all (d - 2) (by omega)
  have e : d - 2 + 2 = d := by omega
  rw [e] at this
  exact this (Nat.mod_eq_zero_of_dvd h)
theorem coprime (k : Nat) (h1 : 1 ≤ k) (hk : k ≤ 524319) : Nat.gcd k 2147483647 = 1 := by
  have hd : Nat.gcd k 2147483647 ∣ 2147483647 := Nat.gcd_dvd_right _ _
  have hle : Nat.gcd k 2147483647 ≤ k := Nat.le_of_dvd (by omega) (Nat.gcd_dvd_left _ _)
  have hpos : 0 < Nat.gcd k 2147483647 := Nat.gcd_pos_of_pos_left _ (by omega)
  generalize Nat.gcd k 2147483647 = d at hd hle hpos
  obtain ⟨e, he⟩ := hd
  by_cases hd1 : d = 1
  · exact hd1
  exfalso
  by_cases hs : d ≤ 46340
  · exact no_div d (by omega) hs ⟨e, he⟩
  · have hel : e ≤ 46340 := by
      rcases Nat.lt_or_ge 46340 e with h | h
      · have := Nat.mul_le_mul (show 46341 ≤ d by omega) (show 46341 ≤ e by omega)
        omega
      · exact h
    have he2 : 2 ≤ e := by
      rcases Nat.lt_or_ge e 2 with h | h
      · have : e = 0 ∨ e = 1 := by omega
        rcases this with rfl | rfl <;> omega
      · exact h
    exact no_div e he2 hel ⟨d, by rw [he, Nat.mul_comm]⟩
/-- two turned bits do not undo each other -/
theorem order (k : Nat) (h1 : 1 ≤ k) (hk : k ≤ 524319) : Tn k 1#32 ≠ 1#32 := by
  intro h
  have := Tn_gcd k 2147483647 h (Tn_all 1#32)
  rw [coprime k h1 hk] at this
  exact absurd this (by decide)

/-! ### the first, the last, how many -/
def F (D : Nat → Bool) : Nat → Int
  | 0 => -1
  | p + 1 => if D p then (if F D p < 0 then (p : Int) else F D p) else F D p
def La (D : Nat → Bool) : Nat → Int
  | 0 => -1
  | p + 1 => if D p then (p : Int) else La D p
def Inv (D : Nat → Bool) (p : Nat) : Prop :=
  ((∀ q, q < p → D q = false) ∧ F D p = -1 ∧ La D p = -1 ∧ M D p = 0) ∨
  ∃ f la : Nat, f ≤ la ∧ la < p ∧ F D p = f ∧ La D p = la ∧ D f = true ∧ D la = true ∧ (∀ q, q < f → D q = false) ∧ (∀ q, la < q → q < p → D q = false) ∧ 1 ≤ M D p ∧ (M D p = 1 → f = la) ∧ (M D p = 2 → f < la ∧ ∀ q, f < q → q < la → D q = false)
theorem inv (D : Nat → Bool) (p : Nat) : Inv D p := by
  induction p with
  | zero => exact .inl ⟨fun q hq => absurd hq (by omega), rfl, rfl, rfl⟩
  | succ p ih =>
    cases hD : D p with
    | false =>
      have eF : F D (p + 1) = F D p := by simp [F, hD]
      have eL : La D (p + 1) = La D p := by simp [La, hD]
      have eM : M D (p + 1) = M D p := by simp [M, hD]
      rcases ih with ⟨h1, h2, h3, h4⟩ | ⟨f, la, h1, h2, h3, h4, h5, h6, h7, h8, h9, h10, h11⟩
      · exact .inl ⟨fun q hq => by
          by_cases e : q = p
          · rw [e]; exact hD
          · exact h1 q (by omega), by rw [eF]; exact h2, by rw [eL]; exact h3, by rw [eM]; exact h4⟩
      · exact .inr ⟨f, la, h1, by omega, by rw [eF]; exact h3, by rw [eL]; exact h4, h5, h6, h7, fun q hq hq2 => by
          by_cases e : q = p
          · rw [e]; exact hD
          · exact h8 q hq (by omega), by rw [eM]; exact h9, by rw [eM]; exact h10, by rw [eM]; exact h11⟩
    | true =>
      have eL : La D (p + 1) = p := by simp [La, hD]
      have eM : M D (p + 1) = M D p + 1 := by simp [M, hD]
      rcases ih with ⟨h1, h2, h3, h4⟩ | ⟨f, la, h1, h2, h3, h4, h5, h6, h7, h8, h9, h10, h11⟩
      · have eF : F D (p + 1) = p := by simp [F, hD, h2]
        exact .inr ⟨p, p, Nat.le_refl _, by omega, eF, eL, hD, hD, h1, fun q hq hq2 => by omega, by omega, fun _ => rfl, fun h => by omega⟩
      · have eF : F D (p + 1) = f := by
          have : ¬ ((f : Int) < 0) := by omega
          simp [F, hD, h3, this]
        refine .inr ⟨f, p, by omega, by omega, eF, eL, h5, hD, h7, fun q hq hq2 => by omega, by omega, fun h => by omega, fun h => ⟨by omega, fun q hq hq2 => ?_⟩⟩
        have : f = la := h10 (by omega)
        exact h8 q (by omega) (by omega)
/-- WHAT A ROW OF BITS THAT THE REGISTER DOES NOT SEE IS LIKE -/
theorem far (D : Nat → Bool) (N : Nat) (hN : N ≤ 524320) (hz : G D 0#32 N = 0#32) (hne : ∃ p, p < N ∧ D p = true) : 4 ≤ M D N ∧ 32 ≤ La D N - F D N := by
  have heven : M D N % 2 = 0 := by
    have := par_G D N
    rw [hz] at this
    have h0 : par 0#32 32 = false := by decide
    rw [h0] at this
    have := of_decide_eq_false this.symm
    omega
  rcases inv D N with ⟨h1, _⟩ | ⟨f, la, h1, h2, h3, h4, h5, h6, h7, h8, h9, h10, h11⟩
  · obtain ⟨p, hp, hpt⟩ := hne
    rw [h1 p hp] at hpt; cases hpt
  -- what stands from the first to the last makes nothing of nothing
  have hmid : G (fun p => D (f + p)) 0#32 (la - f + 1) = 0#32 := by
    have e1 : N = f + ((la - f + 1) + (N - la - 1)) := by omega
    rw [e1, G_shift, G_none D 0#32 f h7, Tn_zero, G_shift] at hz
    rw [G_none (fun p => D (f + (la - f + 1 + p))) _ (N - la - 1) (fun p hp => h8 _ (by omega) (by omega))] at hz
    exact Tn_eq_zero hz
  have hwin : 32 ≤ la - f := by
    rcases Nat.lt_or_ge (la - f) 32 with hlt | hge
    · exfalso
      have hz0 : feed 0#32 (List.replicate (la - f + 1) false) = 0#32 := by
        have h := feed_range (fun _ => false) 0#32 (la - f + 1)
        rw [G_zeros, Tn_zero] at h
        have e : (List.range (la - f + 1)).map (fun _ => false) = List.replicate (la - f + 1) false := by
          apply List.ext_getElem <;> simp
        rw [e] at h; exact h
      have hfd : feed 0#32 ((List.range (la - f + 1)).map fun p => D (f + p)) = feed 0#32 (List.replicate (la - f + 1) false) := by
        rw [feed_range, hmid, hz0]
      have := feed_tail_inj (by simp) (by simp; omega) hfd
      have h0 := congrArg (fun l => l[0]?) this
      simp [h5] at h0
    · exact hge
  refine ⟨?_, by rw [h3, h4]; omega⟩
  have hM2 : M D N ≠ 2 := by
    intro h
    obtain ⟨hlt, hq⟩ := h11 h
    have e1 : la - f + 1 = 1 + ((la - f - 1) + 1) := by omega
    rw [e1, G_shift, G_shift] at hmid
    have g1 : G (fun p => D (f + p)) 0#32 1 = T 1#32 := by
      show step 0#32 (D (f + 0)) = _
      rw [Nat.add_zero, h5]; decide
    rw [g1, G_none (fun p => D (f + (1 + p))) _ (la - f - 1) (fun p hp => hq _ (by omega) (by omega))] at hmid
    have g2 : step (Tn (la - f - 1) (T 1#32)) (D (f + (1 + (la - f - 1 + 0)))) = 0#32 := hmid
    have e2 : f + (1 + (la - f - 1 + 0)) = la := by omega
    rw [e2, h6] at g2
    have g3 := T_inj0 _ g2
    rw [xor_eq_zero] at g3
    exact order (la - f - 1 + 1) (by omega) (by omega) g3
  omega
end Crc
end Go.Proofs.YtimgbemdkajemaaDoor
