/- Numbers and texts as bytes, on lists alone: what a part's bytes are, and how a part is read. -/
import GoSem.Claim
namespace Go.Proofs.Ytniogemgkcoimaa

/-- a number's digits to the base 128, the least one first; n: how many stand behind the first one at most -/
def shortF : Nat → Nat → List UInt8
  | 0, x => [UInt8.ofNat x]
  | n + 1, x => if x < 128 then [UInt8.ofNat x] else UInt8.ofNat (x % 128 + 128) :: shortF n (x / 128)
def short (x : Nat) : List UInt8 := shortF 9 x
/-- a number is read: at the i-th digit, x so far, of so many digits more at most -/
def rs : Nat → Nat → Nat → List UInt8 → Option (Nat × List UInt8)
  | 0, _, _, _ => none
  | _ + 1, _, _, [] => none
  | n + 1, i, x, b :: t =>
    if b.toNat % 128 * 128 ^ i < 18446744073709551616 then
      if 128 ≤ b.toNat then rs n (i + 1) (x + b.toNat % 128 * 128 ^ i) t
      else if b.toNat % 128 = 0 ∧ 0 < i then none
      else some (x + b.toNat % 128 * 128 ^ i, t)
    else none
def readShort (l : List UInt8) : Option (Nat × List UInt8) := rs 10 0 0 l

theorem shortF_ne (n x : Nat) : shortF n x ≠ [] := by
  cases n <;> simp [shortF]; split <;> simp
theorem shortF_length (n x : Nat) : (shortF n x).length ≤ n + 1 := by
  induction n generalizing x with
  | zero => simp [shortF]
  | succ n ih => unfold shortF; split; · simp
                 · have := ih (x / 128); simp; omega
theorem short_length (x : Nat) : 0 < (short x).length ∧ (short x).length ≤ 10 :=
  ⟨List.length_pos_iff.2 (shortF_ne 9 x), shortF_length 9 x⟩

/-- what is written is read -/
theorem rs_short (t : List UInt8) : ∀ (n i x z : Nat), n + 1 + i = 10 → z * 128 ^ i < 18446744073709551616 → (i = 0 ∨ 0 < z) →
    rs (n + 1) i x (shortF n z ++ t) = some (x + z * 128 ^ i, t) := by
  intro n
  induction n with
  | zero =>
    intro i x z hi hz h0
    obtain rfl : i = 9 := by omega
    have hz2 : z < 128 := by omega
    have e : (UInt8.ofNat z).toNat = z := by rw [UInt8.toNat_ofNat']; omega
    simp only [shortF, List.cons_append, List.nil_append, rs, e, Nat.mod_eq_of_lt hz2]
    rw [if_pos hz, if_neg (by omega), if_neg (by omega)]
  | succ n ih =>
    intro i x z hi hz h0
    unfold shortF
    by_cases hz2 : z < 128
    · have e : (UInt8.ofNat z).toNat = z := by rw [UInt8.toNat_ofNat']; omega
      rw [if_pos hz2]
      simp only [List.cons_append, List.nil_append, rs, e, Nat.mod_eq_of_lt hz2]
      rw [if_pos hz, if_neg (by omega), if_neg (by omega)]
    · have e : (UInt8.ofNat (z % 128 + 128)).toNat = z % 128 + 128 := by rw [UInt8.toNat_ofNat']; omega
      have em : (z % 128 + 128) % 128 = z % 128 := by omega
      have hsplit : z % 128 * 128 ^ i + z / 128 * 128 ^ (i + 1) = z * 128 ^ i := by
        rw [Nat.pow_succ, Nat.mul_comm (128 ^ i) 128, ← Nat.mul_assoc, ← Nat.add_mul]
        congr 1; omega
      rw [if_neg hz2]
      rw [List.cons_append]
      unfold rs
      rw [e, em, if_pos (by omega), if_pos (by omega), ih (i + 1) _ (z / 128) (by omega) (by omega) (.inr (by omega))]
      rw [Nat.add_assoc, hsplit]
theorem readShort_short (x : Nat) (hx : x < 18446744073709551616) (t : List UInt8) : readShort (short x ++ t) = some (x, t) := by
  have := rs_short t 9 0 0 x rfl (by simpa using hx) (.inl rfl)
  simpa [readShort, short] using this

/-- what is read was written so -/
theorem rs_only : ∀ (n i x : Nat) (l t : List UInt8) (y : Nat), n + i = 10 → rs n i x l = some (y, t) →
    ∃ z, y = x + z * 128 ^ i ∧ z * 128 ^ i < 18446744073709551616 ∧ (i = 0 ∨ 0 < z) ∧ l = shortF (n - 1) z ++ t ∧ z < 128 ^ n := by
  intro n
  induction n with
  | zero => intro i x l t y _ h; simp [rs] at h
  | succ n ih =>
    intro i x l t y hi h
    cases l with
    | nil => simp [rs] at h
    | cons b r =>
      unfold rs at h
      split at h
      · rename_i hfit
        split at h
        · rename_i hb
          obtain ⟨z, hy, hz, h0, hl, hzn⟩ := ih (i + 1) _ r t y (by omega) h
          have hbt := b.toNat_lt
          have hn : 0 < n := by
            rcases Nat.eq_zero_or_pos n with rfl | h'
            · simp [rs] at h
            · exact h'
          have hz0 : 0 < z := by omega
          have hd : b.toNat % 128 = b.toNat - 128 := by omega
          have hsplit : b.toNat % 128 * 128 ^ i + z * 128 ^ (i + 1) = (b.toNat % 128 + z * 128) * 128 ^ i := by
            rw [Nat.pow_succ, Nat.mul_comm (128 ^ i) 128, ← Nat.mul_assoc, ← Nat.add_mul]
          have hpow : 128 ^ (i + 1) * 2 ^ (64 - 7 * (i + 1)) = 18446744073709551616 := by
            have : (128 : Nat) = 2 ^ 7 := rfl
            rw [this, ← Nat.pow_mul, ← Nat.pow_add]
            have : 7 * (i + 1) + (64 - 7 * (i + 1)) = 64 := by omega
            rw [this]
          have hzc : z + 1 ≤ 2 ^ (64 - 7 * (i + 1)) := by
            rcases Nat.lt_or_ge z (2 ^ (64 - 7 * (i + 1))) with h' | h'
            · exact h'
            · have := Nat.mul_le_mul_right (128 ^ (i + 1)) h'
              rw [Nat.mul_comm (2 ^ _)] at this
              omega
          have hz2 : z * 128 ^ (i + 1) + 128 ^ (i + 1) ≤ 18446744073709551616 := by
            have := Nat.mul_le_mul_left (128 ^ (i + 1)) hzc
            rw [hpow, Nat.mul_add, Nat.mul_one, Nat.mul_comm] at this
            omega
          have hd2 : b.toNat % 128 * 128 ^ i < 128 ^ (i + 1) := by
            rw [Nat.pow_succ, Nat.mul_comm (128 ^ i)]
            exact Nat.mul_lt_mul_of_pos_right (by omega) (Nat.pow_pos (by omega))
          refine ⟨b.toNat % 128 + z * 128, ?_, ?_, .inr (by omega), ?_, ?_⟩
          · rw [hy, Nat.add_assoc, hsplit]
          · rw [← hsplit]; omega
          · obtain ⟨n', rfl⟩ : ∃ n', n = n' + 1 := ⟨n - 1, by omega⟩
            simp only [Nat.add_sub_cancel] at hl ⊢
            unfold shortF
            rw [if_neg (by omega)]
            have e1 : (b.toNat % 128 + z * 128) % 128 + 128 = b.toNat := by omega
            have e2 : (b.toNat % 128 + z * 128) / 128 = z := by omega
            rw [e1, e2, hl, UInt8.ofNat_toNat]; rfl
          · rw [Nat.pow_succ]; omega
        · rename_i hb
          split at h
          · cases h
          · rename_i h0
            cases h
            have hm : b.toNat % 128 = b.toNat := by omega
            rw [hm] at h0 hfit ⊢
            refine ⟨b.toNat, rfl, hfit, by omega, ?_, ?_⟩
            · simp only [Nat.add_sub_cancel]
              cases n with
              | zero => simp [shortF]
              | succ n => simp [shortF, show b.toNat < 128 by omega]
            · have : 0 < 128 ^ n := Nat.pow_pos (by omega)
              rw [Nat.pow_succ]; omega
      · cases h
theorem readShort_iff (l t : List UInt8) (y : Nat) : readShort l = some (y, t) ↔ y < 18446744073709551616 ∧ l = short y ++ t := by
  constructor
  · intro h
    obtain ⟨z, hy, hz, _, hl, _⟩ := rs_only 10 0 0 l t y rfl h
    simp at hy hz
    subst hy
    exact ⟨hz, hl⟩
  · rintro ⟨hy, rfl⟩
    exact readShort_short y hy t
/-- of a beginning of a number's bytes that is not all of them none is read -/
theorem readShort_cut (y : Nat) (hy : y < 18446744073709551616) (u v : List UInt8) (h : short y = u ++ v) (hv : v ≠ []) : readShort u = none := by
  cases hr : readShort u with
  | none => rfl
  | some p =>
    obtain ⟨z, t⟩ := p
    obtain ⟨hz, hu⟩ := (readShort_iff u t z).1 hr
    have h1 := readShort_short y hy []
    rw [List.append_nil, h, hu, List.append_assoc, readShort_short z hz] at h1
    simp at h1
    exact absurd h1.2.2 hv

/-- four bytes, the least one first -/
def le4 (s : Nat) : List UInt8 := [UInt8.ofNat s, UInt8.ofNat (s / 256), UInt8.ofNat (s / 65536), UInt8.ofNat (s / 16777216)]
def ofLe : List UInt8 → Nat
  | [] => 0
  | b :: t => b.toNat + 256 * ofLe t
theorem ofLe_le4 (s : Nat) : ofLe (le4 s) = s % 4294967296 := by
  simp only [le4, ofLe, UInt8.toNat_ofNat']; omega

/-- a part, as the laws have it -/
structure PV where
  sort : Int
  most : Int
  x : Nat
  b : List UInt8
def PV.k (p : PV) : Nat := (p.sort % 5).toNat
theorem PV.k_lt (p : PV) : p.k < 5 := by unfold PV.k; omega
/-- its bytes -/
def PV.bytes (p : PV) : List UInt8 :=
  match p.k with
  | 0 => [UInt8.ofNat p.x]
  | 1 => le4 p.x
  | 2 => short p.x
  | 3 => short p.b.length ++ p.b
  | _ => p.b
def rowBytes (l : List PV) : List UInt8 := (l.map PV.bytes).flatten
/-- a part is read: what is answered, a number or bytes, and what is left -/
def readPart (k : Nat) (most : Int) (l : List UInt8) : Option ((Nat × List UInt8) × List UInt8) :=
  match k with
  | 0 => match l with
    | [] => none
    | b :: t => some ((b.toNat, []), t)
  | 1 => if 4 ≤ l.length then some ((ofLe (l.take 4), []), l.drop 4) else none
  | 2 => (readShort l).map fun p => ((p.1, []), p.2)
  | 3 => match readShort l with
    | none => none
    | some (n, t) => if 0 ≤ most ∧ (n : Int) ≤ most ∧ n ≤ t.length then some ((0, t.take n), t.drop n) else none
  | _ => if 0 ≤ most ∧ most ≤ l.length then some ((0, l.take most.toNat), l.drop most.toNat) else none
/-- what a reader's part answers -/
def PV.told (p : PV) : Nat × List UInt8 :=
  match p.k with
  | 0 => (p.x % 256, [])
  | 1 => (p.x % 4294967296, [])
  | 2 => (p.x, [])
  | _ => (0, p.b)
theorem readPart_bytes (p : PV) (hx : p.x < 18446744073709551616) (hb : p.b.length < 18446744073709551616) (t : List UInt8) :
    readPart p.k p.b.length (p.bytes ++ t) = some (p.told, t) := by
  have hk := p.k_lt
  unfold PV.bytes PV.told
  rcases hk' : p.k with _ | _ | _ | _ | _ | k
  · simp [readPart, UInt8.toNat_ofNat']
  · simp [readPart, le4, ← ofLe_le4]
  · simp [readPart, readShort_short p.x hx]
  · simp only [readPart]
    rw [List.append_assoc, readShort_short _ hb]
    simp
  · simp [readPart]; omega
  · omega
theorem readPart_cut (p : PV) (hx : p.x < 18446744073709551616) (hb : p.b.length < 18446744073709551616) (u v : List UInt8) (h : p.bytes = u ++ v) (hv : v ≠ []) :
    readPart p.k p.b.length u = none := by
  have hk := p.k_lt
  have hvl : 0 < v.length := List.length_pos_iff.2 hv
  have hlen := congrArg List.length h
  rw [List.length_append] at hlen
  unfold PV.bytes at h hlen
  rcases hk' : p.k with _ | _ | _ | _ | _ | k <;> rw [hk'] at h hlen <;> simp only at h hlen
  · obtain rfl : u = [] := List.eq_nil_of_length_eq_zero (by simp at hlen; omega)
    rfl
  · simp only [readPart]
    rw [if_neg (by simp [le4] at hlen; omega)]
  · simp only [readPart]
    rw [readShort_cut p.x hx u v h hv]; rfl
  · simp only [readPart]
    cases hr : readShort u with
    | none => rfl
    | some q =>
      obtain ⟨n, t⟩ := q
      obtain ⟨hn, hu⟩ := (readShort_iff u t n).1 hr
      have h1 := readShort_short _ hb p.b
      rw [h, hu, List.append_assoc, readShort_short n hn] at h1
      simp at h1
      obtain ⟨h2, h3⟩ := h1
      have := congrArg List.length h3
      rw [List.length_append] at this
      simp only
      rw [if_neg (by omega)]
  · simp only [readPart]
    rw [if_neg (by omega)]
  · omega

/-- a reader: what is left, and was there a fault? -/
structure RS where
  l : List UInt8
  bad : Bool
def RS.get (s : RS) (k : Nat) (most : Int) : (Nat × List UInt8) × RS :=
  if s.bad then ((0, []), s) else
    match readPart k most s.l with
    | none => ((0, []), ⟨s.l, true⟩)
    | some (a, t) => (a, ⟨t, false⟩)
theorem RS.get_bad (l : List UInt8) (k : Nat) (most : Int) : RS.get ⟨l, true⟩ k most = ((0, []), ⟨l, true⟩) := rfl
theorem RS.get_none {l : List UInt8} {k : Nat} {most : Int} (h : readPart k most l = none) : RS.get ⟨l, false⟩ k most = ((0, []), ⟨l, true⟩) := by simp [RS.get, h]
theorem RS.get_some {l t : List UInt8} {k : Nat} {most : Int} {a : Nat × List UInt8} (h : readPart k most l = some (a, t)) : RS.get ⟨l, false⟩ k most = (a, ⟨t, false⟩) := by simp [RS.get, h]
end Go.Proofs.Ytniogemgkcoimaa
