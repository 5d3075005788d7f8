/- For StripeFresh: what was renewed may be, has nothing bad if so many known ones are good, and what was not bad stays, in order. -/
import Derived.Test.YtnfjhpdpeihheaaRenewB
namespace Go.Proofs.Ytnfjhpdpeihheaa
open Go.RowKit Go.Maps Go.Shelf
theorem clash_false {row : List PL} {k : Nat} {nn : Int} (h : clash row k nn = false) {i : Nat} {y : PL} (hi : i ≠ k) (hy : row[i]? = some y) : y.n ≠ nn := fun e => by
  have := clash_iff.2 ⟨i, y, hi, hy, e⟩
  rw [h] at this
  cases this
theorem MayRow.iff {row : List PL} : MayRow row ↔ (∀ (i : Nat) x, row[i]? = some x → x.may = true) ∧ ∀ (i j : Nat) (x y : PL), i ≠ j → row[i]? = some x → row[j]? = some y → x.n ≠ y.n := by
  constructor
  · intro h
    exact ⟨fun i x hx => h.1 x (List.mem_of_getElem? hx), fun i j x y hij hx hy => h.unlike hij hx hy⟩
  · rintro ⟨h1, h2⟩
    refine ⟨fun x hx => ?_, List.pairwise_iff_getElem.2 fun i j hi hj hij => h2 i j _ _ (by omega) (List.getElem?_eq_getElem hi) (List.getElem?_eq_getElem hj)⟩
    obtain ⟨i, hi⟩ := List.getElem?_of_mem hx
    exact h1 i x hi
theorem MayRow.set {row : List PL} (h : MayRow row) {k : Nat} {g : PL} (hc : clash row k g.n = false) (hg : g.may = true) : MayRow (row.set k g) := by
  rw [MayRow.iff] at h ⊢
  have key : ∀ (i : Nat) x, (row.set k g)[i]? = some x → (i = k ∧ x = g) ∨ (i ≠ k ∧ row[i]? = some x) := fun i x hx => by
    rw [List.getElem?_set] at hx
    split at hx
    · rename_i e
      split at hx
      · cases hx; exact .inl ⟨e.symm, rfl⟩
      · cases hx
    · rename_i e
      exact .inr ⟨fun e' => e e'.symm, hx⟩
  refine ⟨fun i x hx => ?_, fun i j x y hij hx hy => ?_⟩
  · rcases key i x hx with ⟨_, rfl⟩ | ⟨_, h1⟩
    · exact hg
    · exact h.1 i x h1
  · rcases key i x hx with ⟨rfl, rfl⟩ | ⟨hik, h1⟩
    · rcases key j y hy with ⟨rfl, _⟩ | ⟨hjk, h2⟩
      · exact absurd rfl hij
      · exact fun e => clash_false hc hjk h2 e.symm
    · rcases key j y hy with ⟨rfl, rfl⟩ | ⟨hjk, h2⟩
      · exact clash_false hc hik h1
      · exact h.2 i j x y hij h1 h2
theorem MayRow.at {row : List PL} (h : MayRow row) {k : Nat} {x : PL} (hx : row[k]? = some x) : at? row x = some k := by
  refine at_some hx ?_
  rw [List.contains_eq_mem, decide_eq_false_iff_not]
  intro hm
  obtain ⟨j, hj⟩ := List.getElem?_of_mem hm
  have hjk : j < k := by
    have := (List.getElem?_eq_some_iff.1 hj).1
    rw [List.length_take] at this
    omega
  rw [List.getElem?_take_of_lt hjk] at hj
  exact h.unlike (by omega) hj hx rfl
/-- a replacement, if there is one, is at that place, by a good one that clashes with none -/
theorem repl_some {row r : List PL} {k : Nat} {x : PL} (h : MayRow row) (hx : row[k]? = some x) : ∀ {good : List PL}, replL row x good = some r → ∃ g ∈ good, clash row k g.n = false ∧ r = row.set k g
  | [], e => by cases e
  | g :: gs, e => by
    simp only [replL] at e
    unfold swapL at e
    rw [h.at hx] at e
    cases hc : clash row k g.n
    · simp only [hc, Bool.false_eq_true, if_false] at e
      cases e
      exact ⟨g, List.mem_cons_self, hc, rfl⟩
    · simp only [hc, if_true] at e
      obtain ⟨g', h1, h2⟩ := repl_some h hx e
      exact ⟨g', List.mem_cons_of_mem _ h1, h2⟩
theorem repl_none {row : List PL} {k : Nat} {x : PL} (h : MayRow row) (hx : row[k]? = some x) : ∀ {good : List PL}, replL row x good = none → ∀ g ∈ good, clash row k g.n = true
  | [], _ => fun g hg => by cases hg
  | g :: gs, e => fun g' hg' => by
    simp only [replL] at e
    unfold swapL at e
    rw [h.at hx] at e
    cases hc : clash row k g.n
    · simp only [hc, Bool.false_eq_true, if_false] at e
      cases e
    · simp only [hc, if_true] at e
      rcases List.mem_cons.1 hg' with rfl | hg'
      · exact hc
      · exact repl_none h hx e g' hg'
/-- what stands after k places were gone through -/
structure RenInv (bad good row R : List PL) (k : Nat) : Prop where
  may : MayRow R
  len : R.length = row.length
  later : ∀ i, k ≤ i → R[i]? = row[i]?
  keep : ∀ i x, i < k → row[i]? = some x → bad.contains x = false → R[i]? = some x
  done : ∀ i x, i < k → row[i]? = some x → bad.contains x = true → (R[i]? = some x ∧ ∀ g ∈ good, clash R i g.n = true) ∨ ∃ g ∈ good, R[i]? = some g
theorem RenInv.start {bad good row : List PL} (h : MayRow row) : RenInv bad good row row 0 :=
  ⟨h, rfl, fun _ _ => rfl, fun i _ hi => absurd hi (Nat.not_lt_zero i), fun i _ hi => absurd hi (Nat.not_lt_zero i)⟩
theorem RenInv.step {bad good row R : List PL} {k : Nat} {x : PL} (h : RenInv bad good row R k) (hx : row[k]? = some x) (hg : ∀ g ∈ good, g.may = true) : RenInv bad good row (stepR bad good R x) (k + 1) := by
  have hRx : R[k]? = some x := by rw [h.later k (Nat.le_refl _), hx]
  have hkR := (List.getElem?_eq_some_iff.1 hRx).1
  unfold stepR
  cases hb : bad.contains x
  · rw [if_neg (by simp)]
    refine ⟨h.may, h.len, fun i hi => h.later i (by omega), fun i y hi hy hby => ?_, fun i y hi hy hby => ?_⟩
    · rcases Nat.lt_or_ge i k with h1 | h1
      · exact h.keep i y h1 hy hby
      · obtain rfl : i = k := by omega
        rw [hRx, ← hx, hy]
    · rcases Nat.lt_or_ge i k with h1 | h1
      · exact h.done i y h1 hy hby
      · obtain rfl : i = k := by omega
        rw [hx] at hy
        cases hy
        rw [hb] at hby
        cases hby
  · rw [if_pos rfl]
    cases hr : replL R x good with
    | none =>
      refine ⟨h.may, h.len, fun i hi => h.later i (by omega), fun i y hi hy hby => ?_, fun i y hi hy hby => ?_⟩
      · rcases Nat.lt_or_ge i k with h1 | h1
        · exact h.keep i y h1 hy hby
        · obtain rfl : i = k := by omega
          rw [hx] at hy
          cases hy
          rw [hb] at hby
          cases hby
      · rcases Nat.lt_or_ge i k with h1 | h1
        · exact h.done i y h1 hy hby
        · obtain rfl : i = k := by omega
          rw [hx] at hy
          cases hy
          exact .inl ⟨hRx, repl_none h.may hRx hr⟩
    | some r =>
      obtain ⟨g, hgm, hc, rfl⟩ := repl_some h.may hRx hr
      show RenInv bad good row (R.set k g) (k + 1)
      have hset : ∀ i, i ≠ k → (R.set k g)[i]? = R[i]? := fun i hi => by rw [List.getElem?_set_ne (fun e => hi e.symm)]
      have hsk : (R.set k g)[k]? = some g := by rw [List.getElem?_set_self hkR]
      refine ⟨h.may.set hc (hg g hgm), by rw [List.length_set, h.len], fun i hi => by rw [hset i (by omega)]; exact h.later i (by omega), fun i y hi hy hby => ?_, fun i y hi hy hby => ?_⟩
      · rcases Nat.lt_or_ge i k with h1 | h1
        · rw [hset i (by omega)]; exact h.keep i y h1 hy hby
        · obtain rfl : i = k := by omega
          rw [hx] at hy
          cases hy
          rw [hb] at hby
          cases hby
      · rcases Nat.lt_or_ge i k with h1 | h1
        · rcases h.done i y h1 hy hby with ⟨h2, h3⟩ | ⟨g', h2, h3⟩
          · refine .inl ⟨by rw [hset i (by omega)]; exact h2, fun g2 hg2 => ?_⟩
            have hkn : x.n = g.n := by
              obtain ⟨q, z, hq1, hq2, hq3⟩ := clash_iff.1 (h3 g hgm)
              rcases Nat.lt_or_ge q k with h4 | h4
              · exact absurd hq3 (clash_false hc (by omega) hq2)
              · rcases Nat.eq_or_lt_of_le h4 with h5 | h5
                · subst h5
                  rw [hRx] at hq2
                  cases hq2
                  exact hq3
                · exact absurd hq3 (clash_false hc (by omega) hq2)
            obtain ⟨q, z, hq1, hq2, hq3⟩ := clash_iff.1 (h3 g2 hg2)
            by_cases hqk : q = k
            · subst hqk
              rw [hRx] at hq2
              cases hq2
              exact clash_iff.2 ⟨q, g, hq1, hsk, by rw [← hkn, hq3]⟩
            · exact clash_iff.2 ⟨q, z, hq1, by rw [hset q hqk]; exact hq2, hq3⟩
          · exact .inr ⟨g', h2, by rw [hset i (by omega)]; exact h3⟩
        · obtain rfl : i = k := by omega
          exact .inr ⟨g, hgm, hsk⟩
theorem RenInv.all {bad good row : List PL} (h : MayRow row) (hg : ∀ g ∈ good, g.may = true) : ∀ k, k ≤ row.length → RenInv bad good row (renR bad good row k) k
  | 0, _ => by unfold renR; rw [List.take_zero]; exact RenInv.start h
  | k + 1, hk => by
    have hx := List.getElem?_eq_getElem (show k < row.length by omega)
    rw [renR_succ hx]
    exact (RenInv.all h hg k (by omega)).step hx hg
/-- what leave leaves: how many, and which -/
theorem leaveSt_more (p : PL → Bool) (w n : Int) (l : List PL) : ∀ k, k ≤ l.length → (leaveSt p w n (l.take k)).1 = n - k + ((leaveSt p w n (l.take k)).2.length : Int) ∧ (w ≤ n → w ≤ (leaveSt p w n (l.take k)).1) ∧ List.Sublist (leaveSt p w n (l.take k)).2 (l.take k) ∧ List.Sublist ((l.take k).filter fun q => !p q) (leaveSt p w n (l.take k)).2 ∧ ((∃ q ∈ (leaveSt p w n (l.take k)).2, p q = true) → (leaveSt p w n (l.take k)).1 ≤ w) := by
  intro k
  induction k with
  | zero => intro _; exact ⟨by simp [leaveSt], by simp [leaveSt], by simp [leaveSt], by simp, by simp [leaveSt]⟩
  | succ k ih =>
    intro hk
    obtain ⟨h1, h2, h3, h4, h5⟩ := ih (by omega)
    have hx := List.getElem?_eq_getElem (show k < l.length by omega)
    rw [leaveSt_take hx, take_snoc hx, List.filter_append]
    generalize l[k] = x at hx
    split
    · rename_i hc
      simp only [Bool.and_eq_true, decide_eq_true_eq] at hc
      refine ⟨by show (leaveSt p w n (l.take k)).1 - 1 = _; rw [h1]; push_cast; omega, fun hw => by show w ≤ (leaveSt p w n (l.take k)).1 - 1; omega, h3.trans (List.sublist_append_left _ _), ?_, ?_⟩
      · simp only [List.filter_cons, hc.2, List.filter_nil, Bool.not_true, Bool.false_eq_true, if_false, List.append_nil]
        exact h4
      · rintro ⟨q, hq, hpq⟩
        have := h5 ⟨q, hq, hpq⟩
        omega
    · rename_i hc
      refine ⟨by show (leaveSt p w n (l.take k)).1 = _; simp only [List.length_append, List.length_cons, List.length_nil]; push_cast; omega, h2, List.Sublist.append h3 (List.Sublist.refl _), List.Sublist.append h4 (List.filter_sublist), ?_⟩
      rintro ⟨q, hq, hpq⟩
      show (leaveSt p w n (l.take k)).1 ≤ w
      rcases List.mem_append.1 hq with h | h
      · exact h5 ⟨q, h, hpq⟩
      · rw [List.mem_singleton] at h
        subst h
        simp only [Bool.and_eq_true, decide_eq_true_eq, hpq, and_true] at hc
        omega
theorem leaveL_more (p : PL → Bool) (w : Int) (l : List PL) : (w ≤ l.length → w ≤ ((leaveL p w l).length : Int)) ∧ List.Sublist (leaveL p w l) l ∧ List.Sublist (l.filter fun q => !p q) (leaveL p w l) ∧ ((∃ q ∈ leaveL p w l, p q = true) → ((leaveL p w l).length : Int) ≤ w) := by
  obtain ⟨h1, h2, h3, h4, h5⟩ := leaveSt_more p w l.length l l.length (Nat.le_refl _)
  rw [List.take_length] at h1 h2 h3 h4 h5
  unfold leaveL
  exact ⟨fun h => by have := h2 h; omega, h3, h4, fun h => by have := h5 h; omega⟩
theorem MayRow.sub {l m : List PL} (h : MayRow m) (hs : List.Sublist l m) : MayRow l := ⟨fun x hx => h.1 x (hs.subset hx), h.2.sublist hs⟩
theorem ext_grow (most : Int) : ∀ (good S : List PL), MayRow S → (∀ g ∈ good, g.may = true) → MayRow (ext S most good) ∧ (∃ t, ext S most good = S ++ t ∧ ∀ q ∈ t, q ∈ good) ∧ ((ext S most good).length ≤ S.length ∨ ((ext S most good).length : Int) ≤ most)
  | [], S, h, _ => ⟨h, ⟨[], by simp [ext], fun q hq => by cases hq⟩, .inl (Nat.le_refl _)⟩
  | g :: gs, S, h, hg => by
    have hgs : ∀ q ∈ gs, q.may = true := fun q hq => hg q (List.mem_cons_of_mem _ hq)
    have e : ext S most (g :: gs) = ext (if decide ((S.length : Int) < most) = true ∧ S.any (fun q => q.n == g.n) = false then S ++ [g] else S) most gs := by
      unfold ext
      rw [List.foldl_cons]
    rw [e]
    by_cases hc : decide ((S.length : Int) < most) = true ∧ S.any (fun q => q.n == g.n) = false
    · rw [if_pos hc]
      have hS : MayRow (S ++ [g]) := MayRow.snoc.2 ⟨h, hg g List.mem_cons_self, fun y hy e => by
        have := List.any_eq_false.1 hc.2 y hy
        simp [e] at this⟩
      obtain ⟨h1, ⟨t, h2, h3⟩, h4⟩ := ext_grow most gs (S ++ [g]) hS hgs
      have hlt : (S.length : Int) < most := by simpa using hc.1
      refine ⟨h1, ⟨g :: t, by rw [h2]; simp, fun q hq => ?_⟩, .inr ?_⟩
      · rcases List.mem_cons.1 hq with rfl | hq
        · exact List.mem_cons_self
        · exact List.mem_cons_of_mem _ (h3 q hq)
      · rcases h4 with h4 | h4
        · simp only [List.length_append, List.length_cons, List.length_nil] at h4
          omega
        · exact h4
    · rw [if_neg hc]
      obtain ⟨h1, ⟨t, h2, h3⟩, h4⟩ := ext_grow most gs S h hgs
      exact ⟨h1, ⟨t, h2, fun q hq => List.mem_cons_of_mem _ (h3 q hq)⟩, h4⟩
theorem filter_sub (p : PL → Bool) : ∀ (row R : List PL), R.length = row.length → (∀ (i : Nat) x, row[i]? = some x → p x = false → R[i]? = some x) → List.Sublist (row.filter fun q => !p q) (R.filter fun q => !p q)
  | [], R, _, _ => by simp
  | x :: row, [], h, _ => by simp at h
  | x :: row, y :: R, h, hk => by
    have ih := filter_sub p row R (by simpa using h) (fun i z hz hp => by simpa using hk (i + 1) z (by simpa using hz) hp)
    cases hp : p x
    · have := hk 0 x rfl hp
      simp at this
      subst this
      simp only [List.filter_cons, hp, Bool.not_false, if_true]
      exact ih.cons_cons _
    · rw [List.filter_cons_of_neg (by simp [hp]), List.filter_cons]
      split
      · exact ih.cons _
      · exact ih
theorem nodup_le : ∀ (l m : List Int), l.Pairwise (fun a b => a ≠ b) → (∀ x ∈ l, x ∈ m) → l.length ≤ m.length
  | [], _, _, _ => Nat.zero_le _
  | x :: l, m, h, hs => by
    have hx := hs x List.mem_cons_self
    have hp := List.pairwise_cons.1 h
    have ih := nodup_le l (m.erase x) hp.2 (fun y hy => (List.mem_erase_of_ne (fun e => hp.1 y hy e.symm)).2 (hs y (List.mem_cons_of_mem _ hy)))
    have := List.length_erase_of_mem hx
    have := List.length_pos_of_mem hx
    simp only [List.length_cons]
    omega
theorem nodes_le {l m : List PL} (h : MayRow l) (hs : ∀ g ∈ l, ∃ y ∈ m, y.n = g.n) : l.length ≤ m.length := by
  have := nodup_le (l.map PL.n) (m.map PL.n) (List.pairwise_map.2 h.2) (fun x hx => by
    obtain ⟨g, hg, rfl⟩ := List.mem_map.1 hx
    obtain ⟨y, hy, e⟩ := hs g hg
    exact List.mem_map.2 ⟨y, hy, e⟩)
  simpa using this
/-- what StripeFresh says of what was renewed -/
theorem fresh_facts {row bad known : List PL} {n e : Int} (hrow : MayRow row) (hnE : n ≤ (row.length : Int)) (hE : row.length ≤ 5) (hk : MayRow known) :
    MayRow (ext (leaveL bad.contains n (renR bad (rej bad.contains known) row row.length)) (min e 5) (rej bad.contains known)) ∧
    n ≤ ((ext (leaveL bad.contains n (renR bad (rej bad.contains known) row row.length)) (min e 5) (rej bad.contains known)).length : Int) ∧
    (ext (leaveL bad.contains n (renR bad (rej bad.contains known) row row.length)) (min e 5) (rej bad.contains known)).length ≤ 5 ∧
    (n ≤ ((rej bad.contains known).length : Int) → ∀ q ∈ ext (leaveL bad.contains n (renR bad (rej bad.contains known) row row.length)) (min e 5) (rej bad.contains known), bad.contains q = false) ∧
    List.Sublist (row.filter fun q => !bad.contains q) (ext (leaveL bad.contains n (renR bad (rej bad.contains known) row row.length)) (min e 5) (rej bad.contains known)) := by
  have hgs : List.Sublist (rej bad.contains known) known := List.filter_sublist
  have hgm := hk.sub hgs
  have hgb : ∀ g ∈ rej bad.contains known, bad.contains g = false := fun g hg => by
    have := (List.mem_filter.1 hg).2
    simpa using this
  generalize rej bad.contains known = good at hgm hgb
  have inv := RenInv.all (bad := bad) hrow hgm.1 row.length (Nat.le_refl _)
  generalize renR bad good row row.length = R at inv
  obtain ⟨l1, l2, l3, l4⟩ := leaveL_more bad.contains n R
  have hSm := inv.may.sub l2
  have hSl := l2.length_le
  generalize leaveL bad.contains n R = S at l1 l2 l3 l4 hSm hSl
  obtain ⟨x1, ⟨t, x2, x3⟩, x4⟩ := ext_grow (min e 5) good S hSm hgm.1
  have hlen := inv.len
  have hnb : ∀ j q, R[j]? = some q → bad.contains q = true → ∀ g ∈ good, clash R j g.n = true := fun j q hj hq => by
    have hjl : j < row.length := by have := (List.getElem?_eq_some_iff.1 hj).1; omega
    have hx := List.getElem?_eq_getElem hjl
    cases hb : bad.contains row[j]
    · have := inv.keep j _ hjl hx hb
      rw [hj] at this
      cases this
      rw [hb] at hq
      cases hq
    · rcases inv.done j _ hjl hx hb with ⟨h1, h2⟩ | ⟨g, h1, h2⟩
      · exact h2
      · rw [hj] at h2
        cases h2
        rw [hgb _ h1] at hq
        cases hq
  refine ⟨x1, ?_, ?_, ?_, ?_⟩
  · have := l1 (by omega)
    rw [x2, List.length_append]
    omega
  · rcases x4 with x4 | x4 <;> omega
  · intro hng q hq
    rw [x2] at hq
    rcases List.mem_append.1 hq with hqS | hqt
    · cases hbq : bad.contains q
      · rfl
      · exfalso
        have hSn := l4 ⟨q, hqS, hbq⟩
        obtain ⟨j, hj⟩ := List.getElem?_of_mem (l2.subset hqS)
        have hle : good.length ≤ (R.filter fun q => !bad.contains q).length := nodes_le hgm fun g hg => by
          obtain ⟨i, y, h1, h2, h3⟩ := clash_iff.1 (hnb j q hj hbq g hg)
          refine ⟨y, List.mem_filter.2 ⟨List.mem_of_getElem? h2, ?_⟩, h3⟩
          cases hby : bad.contains y
          · rfl
          · obtain ⟨i2, y2, h4, h5, h6⟩ := clash_iff.1 (hnb i y h2 hby g hg)
            exact absurd (h6.trans h3.symm) (inv.may.unlike h4 h5 h2)
        have hsub := l3.filter (fun q => !bad.contains q)
        rw [List.filter_filter] at hsub
        have h7 := hsub.length_le
        simp only [Bool.and_self] at h7
        have h8 : (S.filter fun q => !bad.contains q).length < S.length := by
          rcases Nat.lt_or_ge (S.filter fun q => !bad.contains q).length S.length with h | h
          · exact h
          · exfalso
            have heq := List.filter_sublist (p := fun q => !bad.contains q) (l := S) |>.eq_of_length_le h
            have hmem : q ∈ S.filter fun q => !bad.contains q := by rw [heq]; exact hqS
            have := (List.mem_filter.1 hmem).2
            simp only [hbq] at this
            cases this
        omega
    · exact hgb q (x3 q hqt)
  · have h1 := filter_sub bad.contains row R hlen (fun i x hx hb => inv.keep i x (List.getElem?_eq_some_iff.1 hx).1 hx hb)
    rw [x2]
    exact (h1.trans l3).trans (List.sublist_append_left _ _)
end Go.Proofs.Ytnfjhpdpeihheaa
