/- How many of the nodes 1 to n stand in a list: mathematics. -/
import Derived.Test.YtomoomeocolkmaaSmallB
import Derived.Lib.SlicesCompact
namespace Go.Proofs.Ytomoomeocolkmaa
/-- how many of 1 to n are in l -/
def met : Nat → List Int → Nat
  | 0, _ => 0
  | n + 1, l => met n l + (if ((n : Int) + 1) ∈ l then 1 else 0)
theorem met_congr : ∀ (n : Nat) (l l' : List Int), (∀ v : Int, 1 ≤ v → v ≤ n → (v ∈ l ↔ v ∈ l')) → met n l = met n l'
  | 0, _, _, _ => rfl
  | n + 1, l, l', h => by
    have e := h ((n : Int) + 1) (by omega) (by omega)
    simp only [met]
    rw [met_congr n l l' fun v h1 h2 => h v h1 (by omega)]
    by_cases hl : ((n : Int) + 1) ∈ l
    · rw [if_pos hl, if_pos (e.1 hl)]
    · rw [if_neg hl, if_neg fun hh => hl (e.2 hh)]
theorem met_app (l : List Int) (x : Int) : ∀ n : Nat, met n (l ++ [x]) = met n l + (if 1 ≤ x ∧ x ≤ n ∧ x ∉ l then 1 else 0)
  | 0 => by rw [if_neg (by omega)]; rfl
  | n + 1 => by
    simp only [met]
    rw [met_app l x n]
    by_cases hx : x = (n : Int) + 1
    · subst hx
      rw [if_neg (by omega), if_pos (by simp)]
      by_cases hl : ((n : Int) + 1) ∈ l
      · rw [if_pos hl, if_neg (by simp [hl])]
      · rw [if_neg hl, if_pos ⟨by omega, by omega, hl⟩]
    · have e : (((n : Int) + 1) ∈ l ++ [x]) ↔ ((n : Int) + 1) ∈ l := by
        simp only [List.mem_append, List.mem_singleton]
        exact ⟨fun h => h.elim id fun h => absurd h.symm hx, .inl⟩
      have e2 : (1 ≤ x ∧ x ≤ n ∧ x ∉ l) ↔ (1 ≤ x ∧ x ≤ ((n + 1 : Nat) : Int) ∧ x ∉ l) := ⟨fun h => ⟨h.1, by omega, h.2.2⟩, fun h => ⟨h.1, by omega, h.2.2⟩⟩
      by_cases hl : ((n : Int) + 1) ∈ l
      · rw [if_pos hl, if_pos (e.2 hl)]
        by_cases h : 1 ≤ x ∧ x ≤ n ∧ x ∉ l
        · rw [if_pos h, if_pos (e2.1 h)]
          try omega
        · rw [if_neg h, if_neg fun hh => h (e2.2 hh)]
      · rw [if_neg hl, if_neg fun hh => hl (e.1 hh)]
        by_cases h : 1 ≤ x ∧ x ≤ n ∧ x ∉ l
        · rw [if_pos h, if_pos (e2.1 h)]
        · rw [if_neg h, if_neg fun hh => h (e2.2 hh)]
theorem met_nil : ∀ n, met n [] = 0
  | 0 => rfl
  | n + 1 => by simp [met, met_nil n]
theorem met_apart : ∀ (n : Nat) (a c : List Int), (∀ v : Int, 1 ≤ v → v ≤ n → v ∈ a → v ∈ c → False) → met n a + met n c ≤ n
  | 0, _, _, _ => Nat.le_refl _
  | n + 1, a, c, h => by
    have ih := met_apart n a c fun v h1 h2 => h v h1 (by omega)
    simp only [met]
    by_cases ha : ((n : Int) + 1) ∈ a
    · rw [if_pos ha, if_neg (h _ (by omega) (by omega) ha)]; omega
    · rw [if_neg ha]
      split <;> omega
theorem met_filter (n : Nat) (l : List Int) (p : Int → Bool) (hp : ∀ v : Int, p v = true ↔ 1 ≤ v ∧ v ≤ n) : met n (l.filter p) = met n l :=
  met_congr n _ _ fun v h1 h2 => by rw [List.mem_filter, hp]; exact ⟨fun h => h.1, fun h => ⟨h, h1, h2⟩⟩
open Go.Lib in
theorem compactUpTo_len (d : Array Int) (m : Nat) : (compactUpTo d (m + 1)).length = (compactUpTo d m).length + (if m = 0 ∨ d[m]! ≠ d[m - 1]! then 1 else 0) := by
  unfold compactUpTo
  rw [List.range_succ, List.filter_append, List.map_append, List.length_append]
  congr 1
  simp only [List.filter_cons, List.filter_nil, keeps]
  by_cases h : m = 0 ∨ d[m]! ≠ d[m - 1]!
  · simp [h]
  · simp [h]
theorem get_mem_take (s : List Int) (j m : Nat) (hj : j < m) (hm : m ≤ s.length) : s[j]'(by omega) ∈ s.take m := by
  rw [List.mem_take_iff_getElem]
  exact ⟨j, by omega, rfl⟩
/-- of a sorted row of nodes, without its doubles, so many are left -/
theorem compact_met (n : Nat) (s : List Int) (hs : s.Pairwise (· ≤ ·)) (hin : ∀ v ∈ s, 1 ≤ v ∧ v ≤ (n : Int)) : ∀ m, m ≤ s.length → (Lib.compactUpTo s.toArray m).length = met n (s.take m)
  | 0, _ => by simp [met_nil, Lib.compactUpTo]
  | m + 1, h => by
    have hm : m < s.length := by omega
    rw [compactUpTo_len _ m, compact_met n s hs hin m (by omega), List.take_succ_eq_append_getElem hm, met_app]
    congr 1
    have em : s.toArray[m]! = s[m] := by rw [getElem!_pos s.toArray m (by simpa using hm)]; simp
    rw [em]
    have hr := hin s[m] (List.getElem_mem hm)
    have hle : ∀ j (hj : j < m), s[j]'(by omega) ≤ s[m] := fun j hj => List.pairwise_iff_getElem.1 hs j m (by omega) hm hj
    by_cases h0 : m = 0
    · subst h0
      rw [if_pos (.inl rfl), if_pos ⟨hr.1, hr.2, by simp⟩]
    · have em1 : s.toArray[m - 1]! = s[m - 1] := by rw [getElem!_pos s.toArray (m - 1) (by simp; omega)]; simp
      rw [em1]
      by_cases he : s[m] = s[m - 1]
      · rw [if_neg (by simp [h0, he]), if_neg]
        intro ⟨_, _, hn⟩
        exact hn (by rw [he]; exact get_mem_take s (m - 1) m (by omega) (by omega))
      · have hnm : s[m] ∉ s.take m := fun hmem => by
          obtain ⟨j, hj, hje⟩ := List.mem_take_iff_getElem.1 hmem
          have hj' : j < m := by omega
          have h1 : s[j]'(by omega) ≤ s[m - 1]'(by omega) := by
            rcases Nat.lt_or_ge j (m - 1) with hh | hh
            · exact List.pairwise_iff_getElem.1 hs j (m - 1) (by omega) (by omega) hh
            · obtain rfl : j = m - 1 := by omega
              exact Int.le_refl _
          have h2 := hle (m - 1) (by omega)
          omega
        rw [if_pos (.inr he), if_pos ⟨hr.1, hr.2, hnm⟩]
/-- is a majority of 1 to n among those -/
def quorum (n : Int) (l : List Int) : Bool := decide (1 ≤ n) && decide (half n ≤ (met n.toNat l : Int))
theorem sort_met (n : Int) (l : List Int) (h1 : 1 ≤ n) : (Lib.compact ((l.filter fun x => !(decide (x < 1) || decide (n < x))).mergeSort fun x y => decide (x ≤ y))).length = met n.toNat l := by
  obtain ⟨N, rfl⟩ : ∃ N : Nat, n = N := ⟨n.toNat, by omega⟩
  generalize hf : (l.filter fun x => !(decide (x < 1) || decide ((N : Int) < x))) = f
  have hmf : met N f = met N l := by
    rw [← hf]
    refine met_filter N l _ fun v => ?_
    simp
  have hperm := List.mergeSort_perm f (fun x y => decide (x ≤ y))
  have hsorted : (f.mergeSort fun x y => decide (x ≤ y)).Pairwise (· ≤ ·) := by
    have := List.pairwise_mergeSort (le := fun x y : Int => decide (x ≤ y)) (by intro a b c; simp; omega) (by intro a b; simp; omega) f
    exact this.imp fun h => by simpa using h
  have hin : ∀ v ∈ f.mergeSort fun x y => decide (x ≤ y), 1 ≤ v ∧ v ≤ (N : Int) := fun v hv => by
    have := hperm.mem_iff.1 hv
    rw [← hf, List.mem_filter] at this
    have := this.2
    simp at this
    omega
  unfold Lib.compact
  rw [compact_met N _ hsorted hin _ (Nat.le_refl _), List.take_length, Int.toNat_natCast, ← hmf]
  exact met_congr N _ _ fun v _ _ => hperm.mem_iff
theorem quorum_meet (n : Int) (a c : List Int) (ha : quorum n a = true) (hc : quorum n c = true) : ∃ v, v ∈ a ∧ v ∈ c ∧ 1 ≤ v ∧ v ≤ n := by
  simp only [quorum, Bool.and_eq_true, decide_eq_true_eq] at ha hc
  obtain ⟨h1, ha⟩ := ha
  refine Classical.byContradiction fun hno => ?_
  have := met_apart n.toNat a c fun v h1 h2 ha hc => hno ⟨v, ha, hc, h1, by omega⟩
  have hh : half n = n / 2 + 1 := by unfold half; rw [if_neg (by omega)]
  rw [hh] at ha hc
  omega
theorem quorum_more (n : Int) (a : List Int) (x : Int) (ha : quorum n a = true) : quorum n (a ++ [x]) = true := by
  simp only [quorum, Bool.and_eq_true, decide_eq_true_eq] at ha ⊢
  refine ⟨ha.1, ?_⟩
  rw [met_app]
  omega
end Go.Proofs.Ytomoomeocolkmaa
