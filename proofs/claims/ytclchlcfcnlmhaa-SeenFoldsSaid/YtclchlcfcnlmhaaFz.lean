/- The document's Fold in plain mathematics: what it has so far, which one is next. -/
import Derived.Test.YtclchlcfcnlmhaaFy
namespace Go.Proofs.Ytclchlcfcnlmhaa
open Go.RowKit Go.Maps Go.Shelf
/-- behind all of R -/
def Bh (R : List MK) (x : MK) : Prop := ∀ q ∈ R, q.p < x.p
instance (R : List MK) (x : MK) : Decidable (Bh R x) := inferInstanceAs (Decidable (∀ q ∈ R, q.p < x.p))
/-- how many are still behind -/
def behindN (T R : List MK) : Nat := (T.filter fun x => decide (Bh R x)).length
/-- what there is so far -/
structure Fol (T R : List MK) : Prop where
  ris : Ris R
  says : ∀ p, (∃ q ∈ R, p ≤ q.p) → look R p = look T.reverse p
  small : R.length + behindN T R ≤ T.length
  ok : ∀ q ∈ R, q ∈ T
/-- the next one among the first i -/
def Nxt (T R : List MK) (i : Nat) (k : Int) : Prop :=
  (k = -1 ∧ ∀ (j : Nat) y, j < i → T[j]? = some y → ¬ Bh R y) ∨ ∃ (n : Nat) (x : MK), k = (n : Nat) ∧ n < i ∧ T[n]? = some x ∧ Bh R x ∧ ∀ (j : Nat) y, j < i → T[j]? = some y → Bh R y → x.p ≤ y.p ∧ (y.p = x.p → j ≤ n)
theorem bh_nil (x : MK) : Bh [] x := fun q hq => by cases hq
theorem bh_last {R : List MK} {q : MK} {m : Nat} (h : Ris R) (hl : R.length = m + 1) (hq : R[m]? = some q) (x : MK) : Bh R x ↔ q.p < x.p := by
  constructor
  · intro hb
    exact hb q (List.mem_of_getElem? hq)
  · intro hlt y hy
    obtain ⟨j, hj⟩ := List.getElem?_of_mem hy
    obtain ⟨hjl, hjv⟩ := List.getElem?_eq_some_iff.1 hj
    obtain ⟨hml, hmv⟩ := List.getElem?_eq_some_iff.1 hq
    by_cases hjm : j = m
    · subst hjm
      rw [hj] at hq
      cases hq
      exact hlt
    · have := List.pairwise_iff_getElem.1 h j m hjl hml (by omega)
      rw [hjv, hmv] at this
      omega
theorem nxt_zero (T R : List MK) : Nxt T R 0 (-1) := .inl ⟨rfl, fun j y hj => by omega⟩
theorem nxt_pass {T R : List MK} {i : Nat} {k : Int} {y : MK} (h : Nxt T R i k) (hy : T[i]? = some y) (hb : ¬ Bh R y) : Nxt T R (i + 1) k := by
  have key : ∀ (j : Nat) z, j < i + 1 → T[j]? = some z → Bh R z → j < i := fun j z hj hz hbz => by
    by_cases hji : j = i
    · subst hji
      rw [hy] at hz
      cases hz
      exact absurd hbz hb
    · omega
  rcases h with ⟨hk, h⟩ | ⟨n, x, hk, hn, hx, hbx, h⟩
  · exact .inl ⟨hk, fun j z hj hz hbz => h j z (key j z hj hz hbz) hz hbz⟩
  · exact .inr ⟨n, x, hk, by omega, hx, hbx, fun j z hj hz hbz => h j z (key j z hj hz hbz) hz hbz⟩
theorem nxt_first {T R : List MK} {i : Nat} {y : MK} (h : Nxt T R i (-1)) (hy : T[i]? = some y) (hb : Bh R y) : Nxt T R (i + 1) (i : Nat) := by
  rcases h with ⟨-, h⟩ | ⟨n, x, hk, -⟩
  · refine .inr ⟨i, y, rfl, by omega, hy, hb, fun j z hj hz hbz => ?_⟩
    by_cases hji : j = i
    · subst hji
      rw [hy] at hz
      cases hz
      exact ⟨Int.le_refl _, fun _ => Nat.le_refl _⟩
    · exact absurd hbz (h j z (by omega) hz)
  · omega
theorem nxt_at {T R : List MK} {i : Nat} {k : Int} (h : Nxt T R i k) (hk : ¬ k < 0) : ∃ (n : Nat) (x : MK), k = (n : Nat) ∧ n < i ∧ T[n]? = some x ∧ Bh R x := by
  rcases h with ⟨hk', -⟩ | ⟨n, x, hk', hn, hx, hb, -⟩
  · omega
  · exact ⟨n, x, hk', hn, hx, hb⟩
theorem nxt_less {T R : List MK} {i n : Nat} {x y : MK} (h : Nxt T R i (n : Nat)) (hx : T[n]? = some x) (hy : T[i]? = some y) (hb : Bh R y) (hle : y.p ≤ x.p) : Nxt T R (i + 1) (i : Nat) := by
  rcases h with ⟨hk, -⟩ | ⟨m, x', hk, hm, hx', hbx, h⟩
  · omega
  · obtain rfl : n = m := by omega
    rw [hx] at hx'
    cases hx'
    refine .inr ⟨i, y, rfl, by omega, hy, hb, fun j z hj hz hbz => ?_⟩
    by_cases hji : j = i
    · subst hji
      rw [hy] at hz
      cases hz
      exact ⟨Int.le_refl _, fun _ => Nat.le_refl _⟩
    · have := h j z (by omega) hz hbz
      exact ⟨by omega, fun _ => by omega⟩
theorem nxt_more {T R : List MK} {i n : Nat} {x y : MK} (h : Nxt T R i (n : Nat)) (hx : T[n]? = some x) (hy : T[i]? = some y) (hle : ¬ y.p ≤ x.p) : Nxt T R (i + 1) (n : Nat) := by
  rcases h with ⟨hk, -⟩ | ⟨m, x', hk, hm, hx', hbx, h⟩
  · omega
  · obtain rfl : n = m := by omega
    rw [hx] at hx'
    cases hx'
    refine .inr ⟨n, x, rfl, by omega, hx, hbx, fun j z hj hz hbz => ?_⟩
    by_cases hji : j = i
    · subst hji
      rw [hy] at hz
      cases hz
      exact ⟨by omega, fun h => by omega⟩
    · exact h j z (by omega) hz hbz
theorem fol_nil (T : List MK) : Fol T [] := ⟨List.Pairwise.nil, (fun p ⟨q, hq, _⟩ => by cases hq), by
  have := List.length_filter_le (fun x => decide (Bh [] x)) T
  simp only [List.length_nil, Nat.zero_add]
  exact this, fun q hq => by cases hq⟩
theorem fol_end {T R : List MK} {N : Nat} (hN : T.length = N) (h : Fol T R) (hn : Nxt T R N (-1)) : IsFold T R := by
  subst hN
  refine ⟨h.ris, fun p => ?_⟩
  by_cases hp : ∃ q ∈ R, p ≤ q.p
  · exact h.says p hp
  · have h1 : look R p = none := look_none.2 fun m hm e => hp ⟨m, hm, by omega⟩
    have h2 : look T.reverse p = none := look_none.2 fun m hm e => by
      rw [List.mem_reverse] at hm
      obtain ⟨j, hj⟩ := List.getElem?_of_mem hm
      have hb : Bh R m := fun q hq => by
        by_cases hlt : q.p < m.p
        · exact hlt
        · exact absurd ⟨q, hq, by omega⟩ hp
      rcases hn with ⟨-, hn⟩ | ⟨n, x, hk, -⟩
      · exact hn j m (List.getElem?_eq_some_iff.1 hj).1 hj hb
      · omega
    rw [h1, h2]
theorem look_appF (A B : List MK) (p : Int) : look (A ++ B) p = (look A p).or (look B p) := by unfold look; rw [List.find?_append]
theorem look_rev {T : List MK} {n : Nat} {x : MK} (hx : T[n]? = some x) (h : ∀ (j : Nat) y, T[j]? = some y → y.p = x.p → j ≤ n) : look T.reverse x.p = some x := by
  obtain ⟨hl, hv⟩ := List.getElem?_eq_some_iff.1 hx
  have e : T = T.take n ++ ([x] ++ T.drop (n + 1)) := by
    rw [← List.append_assoc, ← take_snoc hx, List.take_append_drop]
  have h0 : look (T.drop (n + 1)).reverse x.p = none := look_none.2 fun m hm e => by
    rw [List.mem_reverse] at hm
    obtain ⟨j, hj⟩ := List.getElem?_of_mem hm
    rw [List.getElem?_drop] at hj
    have := h _ m hj e
    omega
  rw [e, List.reverse_append, List.reverse_append, look_appF, look_appF, h0]
  have : look ([x] : List MK).reverse x.p = some x := by
    rw [show ([x] : List MK).reverse = [x] from rfl, look_cons, if_pos rfl]
  rw [this]
  rfl
theorem fol_next {T R : List MK} {N n : Nat} {x : MK} (hN : T.length = N) (h : Fol T R) (hn : Nxt T R N (n : Nat)) (hx : T[n]? = some x) : Fol T (R ++ [x]) ∧ R.length + 1 ≤ N := by
  subst hN
  rcases hn with ⟨hk, -⟩ | ⟨m, x', hk, hm, hx', hbx, hn⟩
  · omega
  · obtain rfl : n = m := by omega
    rw [hx] at hx'
    cases hx'
    have hxT : x ∈ T := List.mem_of_getElem? hx
    have hlt : behindN T (R ++ [x]) + 1 ≤ behindN T R := by
      unfold behindN
      have h1 : (T.filter fun y => decide (Bh (R ++ [x]) y)) = (T.filter fun y => decide (Bh R y)).filter fun y => decide (x.p < y.p) := by
        rw [List.filter_filter]
        refine List.filter_congr fun y _ => ?_
        rw [← Bool.decide_and]
        refine decide_eq_decide.2 ⟨fun hb => ⟨hb x (by simp), fun q hq => hb q (by simp [hq])⟩, fun ⟨h1, h2⟩ q hq => ?_⟩
        rcases List.mem_append.1 hq with hq | hq
        · exact h2 q hq
        · obtain rfl : q = x := by simpa using hq
          exact h1
      rw [h1]
      have hmem : x ∈ T.filter fun y => decide (Bh R y) := List.mem_filter.2 ⟨hxT, decide_eq_true hbx⟩
      generalize (T.filter fun y => decide (Bh R y)) = Z at hmem ⊢
      have : (Z.filter fun y => decide (x.p < y.p)).length ≠ Z.length := fun e => by
        have := (List.length_filter_eq_length_iff.1 e) x hmem
        simp at this
      have := List.length_filter_le (fun y => decide (x.p < y.p)) Z
      omega
    refine ⟨⟨?_, fun p ⟨q, hq, hp⟩ => ?_, ?_, fun q hq => ?_⟩, ?_⟩
    · refine List.pairwise_append.2 ⟨h.ris, List.pairwise_singleton _ _, fun a ha b hb => ?_⟩
      obtain rfl : b = x := by simpa using hb
      exact hbx a ha
    · rw [look_appF]
      by_cases hq' : ∃ q ∈ R, p ≤ q.p
      · obtain ⟨r, hr, hpr⟩ := hq'
        have : look [x] p = none := look_none.2 fun m hm e => by
          obtain rfl : m = x := by simpa using hm
          have := hbx r hr
          omega
        rw [this, Option.or_none]
        exact h.says p ⟨r, hr, hpr⟩
      · have h1 : look R p = none := look_none.2 fun m hm e => hq' ⟨m, hm, by omega⟩
        have hpx : p ≤ x.p := by
          rcases List.mem_append.1 hq with hq | hq
          · exact absurd ⟨q, hq, hp⟩ hq'
          · obtain rfl : q = x := by simpa using hq
            exact hp
        rw [h1, Option.none_or]
        by_cases hpe : p = x.p
        · subst hpe
          rw [look_cons, if_pos rfl, look_rev hx fun j y hy e => (hn j y (List.getElem?_eq_some_iff.1 hy).1 hy (fun q hq => by rw [e]; exact hbx q hq)).2 e]
        · rw [look_cons, if_neg (fun e => hpe e.symm)]
          have h2 : look T.reverse p = none := look_none.2 fun m hm e => by
            rw [List.mem_reverse] at hm
            obtain ⟨j, hj⟩ := List.getElem?_of_mem hm
            have hb : Bh R m := fun q hq => by
              by_cases hlt : q.p < m.p
              · exact hlt
              · exact absurd ⟨q, hq, by omega⟩ hq'
            have := (hn j m (List.getElem?_eq_some_iff.1 hj).1 hj hb).1
            omega
          rw [h2]
          rfl
    · have := h.small
      rw [List.length_append, List.length_singleton]
      omega
    · rcases List.mem_append.1 hq with hq | hq
      · exact h.ok q hq
      · obtain rfl : q = x := by simpa using hq
        exact hxT
    · have := h.small
      omega
end Go.Proofs.Ytclchlcfcnlmhaa
