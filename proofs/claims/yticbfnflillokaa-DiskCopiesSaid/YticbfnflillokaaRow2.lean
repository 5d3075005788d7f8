/- The document's Named, find, bytes, Size. -/
import Derived.Test.YticbfnflillokaaRow1
namespace Go.Proofs.Yticbfnflillokaa
open Go.RowKit
theorem idx_none (n : Bs) : ∀ (f pos : Nat), n.length ≤ pos + f → (Lib.idxFuncFrom strange true ⟨n.toArray⟩ f pos = -1 ↔ ∀ j (h : j < n.length), pos ≤ j → strange (n[j]).toNat = false)
  | 0, pos, hf => by
    unfold Lib.idxFuncFrom
    exact ⟨fun _ j h hp => by omega, fun _ => rfl⟩
  | f + 1, pos, hf => by
    unfold Lib.idxFuncFrom
    have hsz : (⟨n.toArray⟩ : ByteArray).size = n.length := size_mk n
    by_cases hp : pos < n.length
    · have hp' : pos < (⟨n.toArray⟩ : ByteArray).size := by rw [hsz]; exact hp
      rw [if_pos hp']
      have hget : ((⟨n.toArray⟩ : ByteArray)[pos]'hp') = n[pos] := rfl
      by_cases ha : (n[pos]).toNat < 128
      · have hd := Go.decode_ascii ⟨n.toArray⟩ pos hp' (by rw [hget]; exact ha)
        rw [hd, hget]
        by_cases hs : strange (n[pos]).toNat = true
        · rw [if_pos hs]
          exact ⟨fun h => by omega, fun h => by have := h pos hp (Nat.le_refl _); rw [hs] at this; cases this⟩
        · rw [if_neg hs]
          have ih := idx_none n f (pos + 1) (by omega)
          rw [ih]
          refine ⟨fun h j hj hpj => ?_, fun h j hj hpj => h j hj (by omega)⟩
          by_cases e : j = pos
          · subst e; simpa using hs
          · exact h j hj (by omega)
      · have hh := (Go.decode_high ⟨n.toArray⟩ pos hp' (by rw [hget]; omega)).1
        have hst : ∀ x, 128 ≤ x → strange x = true := fun x hx => by unfold strange; simp; omega
        rw [if_pos (hst _ hh)]
        exact ⟨fun h => by omega, fun h => by have := h pos hp (Nat.le_refl _); rw [hst _ (by omega)] at this; cases this⟩
    · rw [if_neg (by rw [hsz]; exact hp)]
      exact ⟨fun _ j h hpj => by omega, fun _ => rfl⟩
theorem isName_iff (n : Bs) : isName n = true ↔ (1 ≤ n.length ∧ n.length ≤ 16) ∧ ∀ j (h : j < n.length), strange (n[j]).toNat = false := by
  unfold isName
  have h := idx_none n n.length 0 (by omega)
  have e : Lib.idxFunc strange true ⟨n.toArray⟩ = Lib.idxFuncFrom strange true ⟨n.toArray⟩ n.length 0 := by unfold Lib.idxFunc; rw [size_mk]
  have hr := Lib.idxFunc_range strange true ⟨n.toArray⟩
  rw [e] at hr ⊢
  have hz : (decide (0 ≤ Lib.idxFuncFrom strange true ⟨n.toArray⟩ n.length 0) = false) ↔ ∀ j (h : j < n.length), strange (n[j]).toNat = false := by
    rw [decide_eq_false_iff_not]
    refine ⟨fun hn j hj => h.1 (by rcases hr with hr | hr <;> omega) j hj (Nat.zero_le _), fun ha => ?_⟩
    rw [h.2 fun j hj _ => ha j hj]; omega
  simp only [Bool.and_eq_true, Bool.not_eq_true', decide_eq_true_eq, hz]
  have : n.isEmpty = false ↔ 1 ≤ n.length := by cases n <;> simp
  rw [this]
set_option maxRecDepth 100000 in
theorem named_any (n : Bs) (w : World) (hn : n.length ≤ maxLen) : Calls Try.prog 67 #[.string ⟨n.toArray⟩] w fun e w' => e = .returned (.bool (isName n)) ∧ w = w' := by
  have hi := isName_iff n
  rw [maxLen_eq] at hn
  have hsz := size_mk n
  obtain ⟨S, hS⟩ : ∃ S : ByteArray, S = ⟨n.toArray⟩ := ⟨_, rfl⟩
  obtain ⟨L, hL⟩ : ∃ L, n.length = L := ⟨_, rfl⟩
  have HGET : Hid (∀ k, k < L → ∃ c, n[k]? = some c ∧ ∃ hs : k < S.size, S[k]'hs = c) := fun k h => by subst hS; exact ⟨_, List.getElem?_eq_getElem (show k < n.length by omega), by rw [hsz]; omega, rfl⟩
  rw [← hS] at hsz ⊢
  rw [hL] at hsz hn
  have HI := Lib.hid hi
  have HL := Lib.hid hL
  clear hS hi hL
  go_enter Try.func67, Try.ntmps67
  go_wp2
  go_loopw [3] (fun i wr => ∃ k : Nat, k ≤ L ∧ i = .int .i64 (k : Nat) ∧ wr = w ∧ Hid (∀ j (h : j < n.length), j < k → strange (n[j]).toNat = false)) (fun i _ => L - (intOf i).toNat)
  case atStart => exact ⟨0, Nat.zero_le _, rfl, rfl, fun j h hj => by omega⟩
  case round =>
    obtain ⟨k, hk, rfl, rfl, HP⟩ := hrel
    by_cases hlt : k < L
    · obtain ⟨c, hc, hs, hg⟩ := HGET.out k hlt
      have HBAD : Hid (strange c.toNat = true → isName n = false) := fun hs => by
        cases hb : isName n
        · rfl
        · obtain ⟨hlt', hcc⟩ := List.getElem?_eq_some_iff.1 hc
          have h1 := (HI.out.1 hb).2 k hlt'
          rw [hcc, hs] at h1
          cases h1
      have HGOOD : Hid (strange c.toNat = false → ∀ j (h : j < n.length), j < k + 1 → strange (n[j]).toNat = false) := fun hst j h hj => by
        by_cases e : j = k
        · subst e
          obtain ⟨hlt', hcc⟩ := List.getElem?_eq_some_iff.1 hc
          rw [hcc]; exact hst
        · exact HP.out j h (by omega)
      clear hc
      obtain ⟨z, hz⟩ : ∃ z, c.toNat = z := ⟨_, rfl⟩
      rw [hz] at HBAD HGOOD
      rcases (by omega : (97 ≤ z ∧ z ≤ 122) ∨ (48 ≤ z ∧ z ≤ 57) ∨ z = 46 ∨ (z < 48 ∧ z ≠ 46) ∨ (58 ≤ z ∧ z ≤ 96) ∨ 122 < z) with ⟨h1, h2⟩ | ⟨h1, h2⟩ | h1 | ⟨h1, h2⟩ | ⟨h1, h2⟩ | h1
      · have HF := Lib.hid (HGOOD.out (by unfold strange; simp; omega))
        clear HBAD HGOOD HP
        go_wp2
        go_roundw
        case rel => exact ⟨k + 1, by omega, by go_num, trivial, HF.out⟩
        case measure => simp [intOf]; omega
      · have HF := Lib.hid (HGOOD.out (by unfold strange; simp; omega))
        clear HBAD HGOOD HP
        go_wp2
        go_roundw
        case rel => exact ⟨k + 1, by omega, by go_num, trivial, HF.out⟩
        case measure => simp [intOf]; omega
      · have HF := Lib.hid (HGOOD.out (by unfold strange; simp; omega))
        clear HBAD HGOOD HP
        subst h1
        have e46 : (((46 : Nat) : Int) == 46) = true := by simp
        go_wp2
        go_roundw
        case rel => exact ⟨k + 1, by omega, by go_num, trivial, HF.out⟩
        case measure => simp [intOf]; omega
      · have HF := Lib.hid (HBAD.out (by unfold strange; simp; omega))
        clear HBAD HGOOD HP
        have e46 : (((z : Nat) : Int) == 46) = false := by simp; omega
        go_wp2
        all_goals (first | (go_ret; exact ⟨by rw [HF.out] <;> rfl, rfl⟩) | (exfalso; first | omega | (simp_all; omega) | simp_all))
      · have HF := Lib.hid (HBAD.out (by unfold strange; simp; omega))
        clear HBAD HGOOD HP
        have e46 : (((z : Nat) : Int) == 46) = false := by simp; omega
        go_wp2
        all_goals (first | (go_ret; exact ⟨by rw [HF.out] <;> rfl, rfl⟩) | (exfalso; first | omega | (simp_all; omega) | simp_all))
      · have HF := Lib.hid (HBAD.out (by unfold strange; simp; omega))
        clear HBAD HGOOD HP
        have e46 : (((z : Nat) : Int) == 46) = false := by simp; omega
        go_wp2
        all_goals (first | (go_ret; exact ⟨by rw [HF.out] <;> rfl, rfl⟩) | (exfalso; first | omega | (simp_all; omega) | simp_all))
    · obtain rfl : k = L := by omega
      by_cases h1 : 1 ≤ k
      · by_cases h2 : k ≤ 16
        · have HF : Hid (isName n = true) := HI.out.2 ⟨⟨by rw [HL.out]; exact h1, by rw [HL.out]; exact h2⟩, fun j h => HP.out j h (by rw [HL.out] at h; exact h)⟩
          clear HP
          go_wp2
          go_ret
          exact ⟨by rw [HF.out]; show Ending.returned (.bool (decide ((k : Int) ≤ 16))) = _; simp; omega, rfl⟩
        · have HF : Hid (isName n = false) := by
            cases hb : isName n
            · exact rfl
            · have := (HI.out.1 hb).1; rw [HL.out] at this; omega
          clear HP
          go_wp2
          go_ret
          exact ⟨by rw [HF.out]; show Ending.returned (.bool (decide ((k : Int) ≤ 16))) = _; simp; omega, rfl⟩
      · have HF : Hid (isName n = false) := by
          cases hb : isName n
          · exact rfl
          · have := (HI.out.1 hb).1; rw [HL.out] at this; omega
        clear HP
        go_wp2
        go_ret
        exact ⟨by rw [HF.out] <;> rfl, rfl⟩
end Go.Proofs.Yticbfnflillokaa
