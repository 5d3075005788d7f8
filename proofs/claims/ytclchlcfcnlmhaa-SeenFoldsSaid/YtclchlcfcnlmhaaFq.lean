/- symMerge: the mathematics of its cut. -/
import Derived.Test.YtclchlcfcnlmhaaFp
namespace Go.Proofs.Ytclchlcfcnlmhaa
open Go.RowKit Go.Maps Go.Shelf
set_option linter.unusedSimpArgs false
set_option linter.unusedVariables false
theorem St.comm {U V : List MK} (h : ∀ u ∈ U, ∀ v ∈ V, v.p < u.p) : St (U ++ V) (V ++ U) := by
  refine ⟨by simp; omega, fun p => ?_⟩
  rw [List.filter_append, List.filter_append]
  by_cases hv : ∃ v ∈ V, v.p = p
  · obtain ⟨v, hv, rfl⟩ := hv
    have : U.filter (fun m => decide (m.p = v.p)) = [] := List.filter_eq_nil_iff.2 fun u hu => by have := h u hu v hv; simp; omega
    rw [this, List.append_nil, List.nil_append]
  · have : V.filter (fun m => decide (m.p = p)) = [] := List.filter_eq_nil_iff.2 fun v hv2 => by simp; exact fun e => hv ⟨v, hv2, e⟩
    rw [this, List.append_nil, List.nil_append]
theorem mem_take_get {l : List MK} {i : Nat} {x : MK} (h : x ∈ l.take i) : ∃ k, k < i ∧ l[k]? = some x := by
  obtain ⟨k, hk⟩ := List.getElem?_of_mem h
  rw [List.getElem?_take] at hk
  split at hk
  · exact ⟨k, by assumption, hk⟩
  · cases hk
theorem mem_drop_get {l : List MK} {i : Nat} {x : MK} (h : x ∈ l.drop i) : ∃ k, i ≤ k ∧ l[k]? = some x := by
  obtain ⟨k, hk⟩ := List.getElem?_of_mem h
  rw [List.getElem?_drop] at hk
  exact ⟨_, by omega, hk⟩
theorem get_lt {l : List MK} {k : Nat} {x : MK} (h : l[k]? = some x) : k < l.length := (List.getElem?_eq_some_iff.1 h).1
/-- where the cut is found -/
structure Cutd (M1 M2 : List MK) (D i j : Nat) : Prop where
  lo : D - M2.length ≤ i
  ij : i ≤ j
  hi1 : j ≤ D
  hi2 : j ≤ M1.length
  le : ∀ k x y, D - M2.length ≤ k → k < i → M1[k]? = some x → M2[D - 1 - k]? = some y → x.p ≤ y.p
  gt : ∀ k x y, j ≤ k → k < D → M1[k]? = some x → M2[D - 1 - k]? = some y → y.p < x.p
theorem Cutd.up {M1 M2 : List MK} {D i j c : Nat} {x y : MK} (h : Cutd M1 M2 D i j) (h1 : Srt M1) (h2 : Srt M2) (hi : i ≤ c) (hj : c < j) (hx : M1[c]? = some x) (hy : M2[D - 1 - c]? = some y) (hxy : x.p ≤ y.p) : Cutd M1 M2 D (c + 1) j := by
  have a1 := h.lo; have a2 := h.hi1; have a3 := h.hi2
  refine ⟨by omega, by omega, a2, a3, fun k x' y' hk hk2 hx' hy' => ?_, h.gt⟩
  have := h1.get hx' hx (by omega)
  have := h2.get hy hy' (by omega)
  omega
theorem Cutd.down {M1 M2 : List MK} {D i j c : Nat} {x y : MK} (h : Cutd M1 M2 D i j) (h1 : Srt M1) (h2 : Srt M2) (hi : i ≤ c) (hj : c < j) (hx : M1[c]? = some x) (hy : M2[D - 1 - c]? = some y) (hxy : y.p < x.p) : Cutd M1 M2 D i c := by
  have a1 := h.lo; have a2 := h.hi1; have a3 := h.hi2
  refine ⟨a1, hi, by omega, by omega, h.le, fun k x' y' hk hk2 hx' hy' => ?_⟩
  have := h1.get hx hx' hk
  have := h2.get hy' hy (by omega)
  omega
theorem Cutd.low {M1 M2 : List MK} {D i : Nat} (h : Cutd M1 M2 D i i) (h1 : Srt M1) (h2 : Srt M2) : ∀ u ∈ M1.take i, ∀ v ∈ M2.drop (D - i), u.p ≤ v.p := by
  intro u hu v hv
  obtain ⟨k, hk, hu⟩ := mem_take_get hu
  obtain ⟨l, hl, hv⟩ := mem_drop_get hv
  have b1 := get_lt hu; have b2 := get_lt hv
  have a1 := h.lo; have a2 := h.hi1; have a3 := h.hi2
  by_cases hz : D - M2.length ≤ i - 1
  · obtain ⟨x, hx⟩ : ∃ x, M1[i - 1]? = some x := ⟨_, List.getElem?_eq_getElem (by omega)⟩
    obtain ⟨y, hy⟩ : ∃ y, M2[D - 1 - (i - 1)]? = some y := ⟨_, List.getElem?_eq_getElem (by omega)⟩
    have := h.le (i - 1) x y hz (by omega) hx hy
    have := h1.get hu hx (by omega)
    have := h2.get hy hv (by omega)
    omega
  · omega
theorem Cutd.high {M1 M2 : List MK} {D i : Nat} (h : Cutd M1 M2 D i i) (h1 : Srt M1) (h2 : Srt M2) : ∀ u ∈ M1.drop i, ∀ v ∈ M2.take (D - i), v.p < u.p := by
  intro u hu v hv
  obtain ⟨k, hk, hu⟩ := mem_drop_get hu
  obtain ⟨l, hl, hv⟩ := mem_take_get hv
  have b1 := get_lt hu; have b2 := get_lt hv
  have a1 := h.lo; have a2 := h.hi1; have a3 := h.hi2
  obtain ⟨x, hx⟩ : ∃ x, M1[i]? = some x := ⟨_, List.getElem?_eq_getElem (by omega)⟩
  obtain ⟨y, hy⟩ : ∃ y, M2[D - 1 - i]? = some y := ⟨_, List.getElem?_eq_getElem (by omega)⟩
  have := h.gt i x y (Nat.le_refl _) (by omega) hx hy
  have := h1.get hx hu hk
  have := h2.get hv hy (by omega)
  omega
theorem srt_app {P Q : List MK} (h1 : Srt P) (h2 : Srt Q) (h : ∀ x ∈ P, ∀ y ∈ Q, x.p ≤ y.p) : Srt (P ++ Q) := List.pairwise_append.2 ⟨h1, h2, h⟩
theorem srt_take {P : List MK} (h : Srt P) (i : Nat) : Srt (P.take i) := List.Pairwise.sublist (List.take_sublist i P) h
theorem srt_drop {P : List MK} (h : Srt P) (i : Nat) : Srt (P.drop i) := List.Pairwise.sublist (List.drop_sublist i P) h
/-- .. both sides merged: all is -/
theorem Cutd.fin {M1 M2 L' R' : List MK} {D i : Nat} (h : Cutd M1 M2 D i i) (h1 : Srt M1) (h2 : Srt M2) (hL : St (M1.take i ++ M2.take (D - i)) L') (hLs : Srt L') (hR : St (M1.drop i ++ M2.drop (D - i)) R') (hRs : Srt R') : St (M1 ++ M2) (L' ++ R') ∧ Srt (L' ++ R') := by
  have hlow := h.low h1 h2
  have hhigh := h.high h1 h2
  have e1 := List.take_append_drop i M1
  have e2 := List.take_append_drop (D - i) M2
  generalize M1.take i = U1 at *
  generalize M1.drop i = U2 at *
  generalize M2.take (D - i) = V1 at *
  generalize M2.drop (D - i) = V2 at *
  subst e1; subst e2
  refine ⟨?_, srt_app hLs hRs fun x hx y hy => ?_⟩
  · have a : St ((U1 ++ U2) ++ (V1 ++ V2)) ((U1 ++ V1) ++ (U2 ++ V2)) := by
      have := St.app (St.app (St.refl U1) (St.comm hhigh)) (St.refl V2)
      simpa using this
    exact a.trans (St.app hL hR)
  · have hx := hL.mem hx
    have hy := hR.mem hy
    have s1 := List.pairwise_append.1 h1
    have s2 := List.pairwise_append.1 h2
    rcases List.mem_append.1 hx with hx | hx <;> rcases List.mem_append.1 hy with hy | hy
    · exact s1.2.2 x hx y hy
    · exact hlow x hx y hy
    · exact Int.le_of_lt (hhigh y hy x hx)
    · exact s2.2.2 x hx y hy
end Go.Proofs.Ytclchlcfcnlmhaa
