/- The document's reader: the number at the front. -/
import Derived.Test.YtniogemgkcoimaaRdr2
namespace Go.Proofs.Ytniogemgkcoimaa
open Go.RowKit
theorem shortF_digits : ∀ (n x : Nat), x < 128 ^ (n + 1) → (∀ j, j + 1 < (shortF n x).length → 128 ≤ ((shortF n x).getD j 0).toNat) ∧ ((shortF n x).getD ((shortF n x).length - 1) 0).toNat < 128
  | 0, x, h => by
    refine ⟨fun j hj => by simp [shortF] at hj, ?_⟩
    show (UInt8.ofNat x).toNat < 128
    rw [UInt8.toNat_ofNat']; omega
  | n + 1, x, h => by
    by_cases hx : x < 128
    · have e : shortF (n + 1) x = [UInt8.ofNat x] := by unfold shortF; rw [if_pos hx]
      rw [e]
      refine ⟨fun j hj => by simp at hj, ?_⟩
      show (UInt8.ofNat x).toNat < 128
      rw [UInt8.toNat_ofNat']; omega
    · have e : shortF (n + 1) x = UInt8.ofNat (x % 128 + 128) :: shortF n (x / 128) := by
        rw [show shortF (n + 1) x = if x < 128 then [UInt8.ofNat x] else UInt8.ofNat (x % 128 + 128) :: shortF n (x / 128) from rfl, if_neg hx]
      rw [Nat.pow_succ] at h
      obtain ⟨h1, h2⟩ := shortF_digits n (x / 128) (by omega)
      have h3 := List.length_pos_iff.2 (shortF_ne n (x / 128))
      rw [e]
      refine ⟨fun j hj => ?_, ?_⟩
      · cases j with
        | zero => show 128 ≤ (UInt8.ofNat (x % 128 + 128)).toNat; rw [UInt8.toNat_ofNat']; omega
        | succ j =>
          rw [List.length_cons] at hj
          exact h1 j (by omega)
      · rw [List.length_cons, Nat.add_sub_cancel]
        obtain ⟨m, hm⟩ : ∃ m, (shortF n (x / 128)).length = m + 1 := ⟨(shortF n (x / 128)).length - 1, by omega⟩
        rw [hm] at h2 ⊢
        exact h2
/-- the value of digits -/
def hv : List UInt8 → Nat
  | [] => 0
  | b :: t => b.toNat % 128 + 128 * hv t
theorem hv_shortF : ∀ (n x : Nat), x < 128 ^ (n + 1) → hv (shortF n x) = x
  | 0, x, h => by
    show (UInt8.ofNat x).toNat % 128 + 128 * 0 = x
    rw [UInt8.toNat_ofNat']; omega
  | n + 1, x, h => by
    by_cases hx : x < 128
    · have e : shortF (n + 1) x = [UInt8.ofNat x] := by unfold shortF; rw [if_pos hx]
      rw [e]
      show (UInt8.ofNat x).toNat % 128 + 128 * 0 = x
      rw [UInt8.toNat_ofNat']; omega
    · have e : shortF (n + 1) x = UInt8.ofNat (x % 128 + 128) :: shortF n (x / 128) := by
        rw [show shortF (n + 1) x = if x < 128 then [UInt8.ofNat x] else UInt8.ofNat (x % 128 + 128) :: shortF n (x / 128) from rfl, if_neg hx]
      rw [Nat.pow_succ] at h
      rw [e]
      show (UInt8.ofNat (x % 128 + 128)).toNat % 128 + 128 * hv (shortF n (x / 128)) = x
      rw [hv_shortF n (x / 128) (by omega), UInt8.toNat_ofNat']; omega
theorem hv_step (B : List UInt8) (i : Nat) (h : i < B.length) : hv (B.drop i) = (B.getD i 0).toNat % 128 + 128 * hv (B.drop (i + 1)) := by
  rw [List.drop_eq_getElem_cons h, hv, List.getD_eq_getElem?_getD, List.getElem?_eq_getElem h]; rfl
/-- how many digits, and of which value, the number at the front has -/
def Num (l : List UInt8) (x n : Nat) : Prop := (readShort l = none ∧ x = 0 ∧ n = 0) ∨ ∃ t, readShort l = some (x, t) ∧ n = (short x).length ∧ l = short x ++ t ∧ x < 18446744073709551616
theorem dig_short {l t : List UInt8} {y n : Nat} (hy : y < 18446744073709551616) (hl : l = short y ++ t) (hd : Dig l n) : n = (short y).length := by
  obtain ⟨h1, h2⟩ := shortF_digits 9 y (by omega)
  have hs := short_length y
  have hg : ∀ j, j < (short y).length → l.getD j 0 = (short y).getD j 0 := fun j hj => by
    rw [hl, List.getD_eq_getElem?_getD, List.getElem?_append_left hj, List.getD_eq_getElem?_getD]
  have hlen : (short y).length ≤ l.length := by rw [hl]; simp
  change ((short y).getD ((short y).length - 1) 0).toNat < 128 at h2
  change ∀ j, j + 1 < (short y).length → 128 ≤ ((short y).getD j 0).toNat at h1
  rcases hd with ⟨rfl, hall⟩ | ⟨hn0, hn10, hnl, hlt, hall⟩
  · have := hall ((short y).length - 1) (by omega) (by omega)
    rw [hg _ (by omega)] at this
    omega
  · rcases Nat.lt_trichotomy n (short y).length with h | h | h
    · have := h1 (n - 1) (by omega)
      rw [hg _ (by omega)] at hlt
      omega
    · exact h
    · have := hall ((short y).length - 1) (by omega)
      rw [hg _ (by omega)] at this
      omega
theorem num_zero {l : List UInt8} (hd : Dig l 0) : Num l 0 0 := by
  refine .inl ⟨?_, rfl, rfl⟩
  cases hr : readShort l with
  | none => rfl
  | some p =>
    obtain ⟨y, t⟩ := p
    obtain ⟨hy, hl⟩ := (readShort_iff l t y).1 hr
    have := dig_short hy hl hd
    have := (short_length y).1
    omega
/-- the bytes are those of their value -/
theorem num_yes {l : List UInt8} {n : Nat} (hn : n ≤ l.length) (h : short (hv (l.take n) % 18446744073709551616) = l.take n) : Num l (hv (l.take n) % 18446744073709551616) n := by
  have hx : hv (l.take n) % 18446744073709551616 < 18446744073709551616 := Nat.mod_lt _ (by omega)
  have hl : l = short (hv (l.take n) % 18446744073709551616) ++ l.drop n := by rw [h, List.take_append_drop]
  exact .inr ⟨l.drop n, (readShort_iff _ _ _).2 ⟨hx, hl⟩, by rw [h]; simp; omega, hl, hx⟩
theorem num_no {l : List UInt8} {n : Nat} (hd : Dig l n) (h : short (hv (l.take n) % 18446744073709551616) ≠ l.take n) : Num l 0 0 := by
  refine .inl ⟨?_, rfl, rfl⟩
  cases hr : readShort l with
  | none => rfl
  | some p =>
    obtain ⟨y, t⟩ := p
    obtain ⟨hy, hl⟩ := (readShort_iff l t y).1 hr
    have hn := dig_short hy hl hd
    have ht : l.take n = short y := by rw [hl, hn, List.take_left]
    refine absurd ?_ h
    rw [ht, show hv (short y) = y from hv_shortF 9 y (by omega), Nat.mod_eq_of_lt hy]
end Go.Proofs.Ytniogemgkcoimaa
