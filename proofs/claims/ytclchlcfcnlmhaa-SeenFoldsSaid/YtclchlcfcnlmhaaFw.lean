/- What a sorted row turned round says. -/
import Derived.Test.YtclchlcfcnlmhaaFv
namespace Go.Proofs.Ytclchlcfcnlmhaa
open Go.RowKit Go.Maps Go.Shelf
set_option linter.unusedSimpArgs false
set_option linter.unusedVariables false
theorem look_app (a b : List MK) (p : Int) : look (a ++ b) p = (look a p).or (look b p) := List.find?_append
theorem look_filter (l : List MK) (p : Int) : look l p = (l.filter fun m => decide (m.p = p)).head? := by
  induction l with
  | nil => rfl
  | cons x l ih =>
    rw [look_cons, List.filter_cons]
    by_cases h : x.p = p
    · rw [if_pos h, if_pos (by simpa using h)]; rfl
    · rw [if_neg h, if_neg (by simpa using h)]; exact ih
theorem St.look {A B : List MK} (h : St A B) (p : Int) : look B p = look A p := by rw [look_filter, look_filter, h.same]
theorem cpt_says {T : List MK} (hs : Srt T) : ∀ n, n ≤ T.length → Ris (cpt T n) ∧ (∀ x ∈ cpt T n, ∃ k, k < n ∧ T[k]? = some x) ∧ ∀ p, look (cpt T n) p = look (T.take n) p
  | 0, _ => ⟨List.Pairwise.nil, fun x hx => (by cases hx), fun p => rfl⟩
  | n + 1, hn => by
    obtain ⟨h1, h2, h3⟩ := cpt_says hs n (by omega)
    obtain ⟨x, hx⟩ : ∃ x, T[n]? = some x := ⟨_, List.getElem?_eq_getElem (by omega)⟩
    have hd : T.getD n default = x := by rw [List.getD_eq_getElem?_getD, hx]; rfl
    rw [cpt, take_snoc hx, hd]
    by_cases hk : keeps T n
    · rw [if_pos hk]
      refine ⟨List.pairwise_append.2 ⟨h1, by simp, fun y hy z hz => ?_⟩, fun y hy => ?_, fun p => by rw [look_app, look_app, h3]⟩
      · rw [List.mem_singleton.1 hz]
        obtain ⟨k, hkn, hy⟩ := h2 y hy
        obtain ⟨v, hv⟩ : ∃ v, T[n - 1]? = some v := ⟨_, List.getElem?_eq_getElem (by omega)⟩
        have a1 := hs.get hy hv (by omega)
        have a2 := hs.get hv hx (by omega)
        rcases hk with hk | hk
        · omega
        · rw [hd, List.getD_eq_getElem?_getD, hv] at hk
          simp at hk
          omega
      · rcases List.mem_append.1 hy with hy | hy
        · obtain ⟨k, hk, h⟩ := h2 y hy; exact ⟨k, by omega, h⟩
        · rw [List.mem_singleton.1 hy]; exact ⟨n, by omega, hx⟩
    · rw [if_neg hk, List.append_nil]
      refine ⟨h1, fun y hy => by obtain ⟨k, hk, h⟩ := h2 y hy; exact ⟨k, by omega, h⟩, fun p => ?_⟩
      rw [look_app, h3]
      obtain ⟨m, rfl⟩ : ∃ m, n = m + 1 := ⟨n - 1, by by_cases h0 : n = 0; exact absurd (.inl h0) hk; omega⟩
      obtain ⟨v, hv⟩ : ∃ v, T[m]? = some v := ⟨_, List.getElem?_eq_getElem (by omega)⟩
      have hxv : x.p = v.p := by
        by_cases h : x.p = v.p
        · exact h
        · exact absurd ((keeps_iff hx hv).2 h) hk
      rw [look_cons]
      by_cases hp : x.p = p
      · have : look (T.take (m + 1)) p ≠ none := fun e => look_none.1 e v (by rw [take_snoc hv]; simp) (by omega)
        cases hl : look (T.take (m + 1)) p with
        | none => exact absurd hl this
        | some q => rfl
      · rw [if_neg hp]
        simp [look]
/-- of each producer the last one, rising -/
theorem fold_says {T T' : List MK} (h : St T.reverse T') (hs : Srt T') : Ris (cpt T' T'.length) ∧ ∀ p, look (cpt T' T'.length) p = look T.reverse p := by
  have := cpt_says hs T'.length (Nat.le_refl _)
  refine ⟨this.1, fun p => ?_⟩
  rw [this.2.2, List.take_length]
  exact h.look p
end Go.Proofs.Ytclchlcfcnlmhaa
