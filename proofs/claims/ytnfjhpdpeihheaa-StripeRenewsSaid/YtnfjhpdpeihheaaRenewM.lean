/- What Renew does with any fragment: mathematics. -/
import Derived.Test.YtnfjhpdpeihheaaFreshM
namespace Go.Proofs.Ytnfjhpdpeihheaa
theorem at_le {l : List PL} {x : PL} {j : Nat} (h : l[j]? = some x) : ∃ i, i ≤ j ∧ at? l x = some i := by
  cases ha : at? l x with
  | none =>
    unfold at? at ha
    rw [List.findIdx?_eq_none_iff] at ha
    have := ha x (List.mem_of_getElem? h)
    simp at this
  | some i =>
    refine ⟨i, ?_, rfl⟩
    rcases Nat.lt_or_ge j i with h1 | h1
    · exact absurd h ((at_spec ha).2 j h1)
    · exact h1
theorem at_first {l : List PL} {x : PL} {k : Nat} (h1 : l[k]? = some x) (h2 : ∀ j, j < k → l[j]? ≠ some x) : at? l x = some k := by
  obtain ⟨i, hi, ha⟩ := at_le h1
  rcases Nat.eq_or_lt_of_le hi with h | h
  · rw [ha, h]
  · exact absurd (at_spec ha).1 (h2 i h)
theorem swapL_some {row r : List PL} {x g : PL} (h : swapL row x g = some r) : ∃ k, at? row x = some k ∧ clash row k g.n = false ∧ r = row.set k g := by
  unfold swapL at h
  split at h
  · cases h
  · rename_i k hk
    split at h
    · cases h
    · rename_i hc
      cases h
      exact ⟨k, hk, by simpa using hc, rfl⟩
theorem swapL_none {row : List PL} {x g : PL} {k : Nat} (ha : at? row x = some k) : swapL row x g = none ↔ clash row k g.n = true := by
  unfold swapL
  rw [ha]
  cases hc : clash row k g.n <;> simp [hc]
theorem replL_spec {row r : List PL} {x : PL} : ∀ {good : List PL}, replL row x good = some r → ∃ g ∈ good, swapL row x g = some r
  | [], h => by cases h
  | g :: gs, h => by
    simp only [replL] at h
    cases hs : swapL row x g with
    | some q => rw [hs] at h; cases h; exact ⟨g, List.mem_cons_self, hs⟩
    | none =>
      rw [hs] at h
      obtain ⟨y, h1, h2⟩ := replL_spec h
      exact ⟨y, List.mem_cons_of_mem _ h1, h2⟩
theorem replL_none {row : List PL} {x : PL} : ∀ {good : List PL}, replL row x good = none ↔ ∀ g ∈ good, swapL row x g = none
  | [] => by simp [replL]
  | g :: gs => by
    simp only [replL, List.forall_mem_cons]
    cases hs : swapL row x g with
    | some q => simp
    | none => simp [replL_none (good := gs)]
theorem take_set_le {l : List PL} {i k : Nat} {g : PL} (h : i ≤ k) : (l.set k g).take i = l.take i := by
  apply List.ext_getElem?
  intro j
  rw [List.getElem?_take, List.getElem?_take]
  split
  · rw [List.getElem?_set_ne (by omega)]
  · rfl
/-- what stands, of any row, behind k places -/
structure RenJ (bad good row R : List PL) (k : Nat) : Prop where
  later : ∀ i, k ≤ i → R[i]? = row[i]?
  fail : ∀ x ∈ R.take k, bad.contains x = true → replL R x good = none
theorem RenJ.hit {bad good row R r : List PL} {k : Nat} {x : PL} (h : RenJ bad good row R k) (hx : row[k]? = some x) (hb : bad.contains x = true) (hr : replL R x good = some r) : ∃ g ∈ good, clash R k g.n = false ∧ r = R.set k g := by
  have hRx : R[k]? = some x := by rw [h.later k (Nat.le_refl _), hx]
  obtain ⟨g, hg, hs⟩ := replL_spec hr
  obtain ⟨i, hi, hc, rfl⟩ := swapL_some hs
  obtain ⟨i', hle, hi'⟩ := at_le hRx
  rw [hi] at hi'
  cases hi'
  rcases Nat.eq_or_lt_of_le hle with he | hlt
  · subst he
    exact ⟨g, hg, hc, rfl⟩
  · exfalso
    have := h.fail x (List.mem_of_getElem? (i := i) (by rw [List.getElem?_take_of_lt hlt]; exact (at_spec hi).1)) hb
    rw [hr] at this
    cases this
theorem RenJ.step {bad good row R : List PL} {k : Nat} {x : PL} (h : RenJ bad good row R k) (hx : row[k]? = some x) (hg : ∀ g ∈ good, bad.contains g = false) : RenJ bad good row (stepR bad good R x) (k + 1) := by
  have hRx : R[k]? = some x := by rw [h.later k (Nat.le_refl _), hx]
  have hkR := (List.getElem?_eq_some_iff.1 hRx).1
  unfold stepR
  cases hb : bad.contains x
  · rw [if_neg (by simp)]
    refine ⟨fun i hi => h.later i (by omega), fun y hy hby => ?_⟩
    rw [take_snoc hRx] at hy
    rcases List.mem_append.1 hy with h1 | h1
    · exact h.fail y h1 hby
    · rw [List.mem_singleton] at h1
      subst h1
      rw [hb] at hby
      cases hby
  · rw [if_pos rfl]
    cases hr : replL R x good with
    | none =>
      refine ⟨fun i hi => h.later i (by omega), fun y hy hby => ?_⟩
      show replL R y good = none
      change y ∈ R.take (k + 1) at hy
      rw [take_snoc hRx] at hy
      rcases List.mem_append.1 hy with h1 | h1
      · exact h.fail y h1 hby
      · rw [List.mem_singleton] at h1
        subst h1
        exact hr
    | some r =>
      obtain ⟨g, hgm, hc, rfl⟩ := h.hit hx hb hr
      show RenJ bad good row (R.set k g) (k + 1)
      have hset : ∀ i, i ≠ k → (R.set k g)[i]? = R[i]? := fun i hi => by rw [List.getElem?_set_ne (fun e => hi e.symm)]
      have hsk : (R.set k g)[k]? = some g := by rw [List.getElem?_set_self hkR]
      refine ⟨fun i hi => by rw [hset i (by omega)]; exact h.later i (by omega), fun y hy hby => ?_⟩
      rw [take_snoc hsk, take_set_le (Nat.le_refl _)] at hy
      rcases List.mem_append.1 hy with h1 | h1
      · have hf := replL_none.1 (h.fail y h1 hby)
        obtain ⟨j, hj⟩ := List.getElem?_of_mem h1
        have hjk : j < k := by
          have := (List.getElem?_eq_some_iff.1 hj).1
          rw [List.length_take] at this
          omega
        rw [List.getElem?_take_of_lt hjk] at hj
        obtain ⟨i, hij, hi⟩ := at_le hj
        have hat : at? (R.set k g) y = some i := at_first (by rw [hset i (by omega)]; exact (at_spec hi).1) fun m hm => by rw [hset m (by omega)]; exact (at_spec hi).2 m hm
        have hkn : x.n = g.n := by
          obtain ⟨q, z, h2, h3, h4⟩ := clash_iff.1 ((swapL_none hi).1 (hf g hgm))
          by_cases hqk : q = k
          · subst hqk
            rw [hRx] at h3
            cases h3
            exact h4
          · exact absurd h4 (clash_false hc hqk h3)
        refine replL_none.2 fun g2 hg2 => (swapL_none hat).2 ?_
        obtain ⟨q, z, h2, h3, h4⟩ := clash_iff.1 ((swapL_none hi).1 (hf g2 hg2))
        by_cases hqk : q = k
        · subst hqk
          rw [hRx] at h3
          cases h3
          exact clash_iff.2 ⟨q, g, h2, hsk, by rw [← hkn, h4]⟩
        · exact clash_iff.2 ⟨q, z, h2, by rw [hset q hqk]; exact h3, h4⟩
      · rw [List.mem_singleton] at h1
        subst h1
        rw [hg _ hgm] at hby
        cases hby
theorem RenJ.all {bad good row : List PL} (hg : ∀ g ∈ good, bad.contains g = false) : ∀ k, k ≤ row.length → RenJ bad good row (renR bad good row k) k
  | 0, _ => by
    unfold renR
    rw [List.take_zero]
    exact ⟨fun _ _ => rfl, fun x hx => by simp at hx⟩
  | k + 1, hk => by
    have hx := List.getElem?_eq_getElem (show k < row.length by omega)
    rw [renR_succ hx]
    exact (RenJ.all hg k (by omega)).step hx hg
/-- the bad ones that stay, of the first k -/
def lefts (bad good row : List PL) (k : Nat) : List PL := ((renR bad good row k).take k).filter bad.contains
theorem ren_step {bad good row : List PL} {k : Nat} {x : PL} (hx : row[k]? = some x) (hg : ∀ g ∈ good, bad.contains g = false) :
    (bad.contains x = false → renR bad good row (k + 1) = renR bad good row k ∧ lefts bad good row (k + 1) = lefts bad good row k) ∧
    (bad.contains x = true → (∃ k0, at? (renR bad good row k) x = some k0 ∧ k0 ≤ k) ∧
      (replL (renR bad good row k) x good = none → renR bad good row (k + 1) = renR bad good row k ∧ lefts bad good row (k + 1) = lefts bad good row k ++ [x]) ∧
      (∀ r, replL (renR bad good row k) x good = some r → renR bad good row (k + 1) = r ∧ lefts bad good row (k + 1) = lefts bad good row k ∧ r ≠ row)) := by
  have hk := (List.getElem?_eq_some_iff.1 hx).1
  have hJ := RenJ.all hg k (Nat.le_of_lt hk)
  have hs := renR_succ (bad := bad) (good := good) hx
  unfold lefts
  rw [hs]
  generalize renR bad good row k = R at hJ hs
  have hRx : R[k]? = some x := by rw [hJ.later k (Nat.le_refl _), hx]
  have hkR := (List.getElem?_eq_some_iff.1 hRx).1
  constructor
  · intro hb
    have he : stepR bad good R x = R := by unfold stepR; rw [if_neg (by rw [hb]; simp)]
    rw [he, take_snoc hRx, List.filter_append]
    refine ⟨rfl, ?_⟩
    rw [List.filter_cons_of_neg (by rw [hb]; simp)]
    simp
  · intro hb
    refine ⟨?_, ?_, ?_⟩
    · obtain ⟨i, h1, h2⟩ := at_le hRx
      exact ⟨i, h2, h1⟩
    · intro hr
      have he : stepR bad good R x = R := by unfold stepR; rw [if_pos hb, hr]; rfl
      rw [he, take_snoc hRx, List.filter_append]
      refine ⟨rfl, ?_⟩
      rw [List.filter_cons_of_pos hb]
      rfl
    · intro r hr
      have he : stepR bad good R x = r := by unfold stepR; rw [if_pos hb, hr]; rfl
      obtain ⟨g, hgm, hc, rfl⟩ := hJ.hit hx hb hr
      have hsk : (R.set k g)[k]? = some g := by rw [List.getElem?_set_self hkR]
      rw [he, take_snoc hsk, List.filter_append, take_set_le (Nat.le_refl _)]
      refine ⟨rfl, ?_, ?_⟩
      · rw [List.filter_cons_of_neg (by rw [hg g hgm]; simp)]
        simp
      · intro e
        rw [e, hx] at hsk
        cases hsk
        rw [hg _ hgm] at hb
        cases hb
/-- the first such place taken out, while there are more than w -/
def cut1 (w : Int) (b : List PL) (x : PL) : List PL := if w < (b.length : Int) then b.erase x else b
theorem cut_low {w : Int} {b : List PL} (h : ¬ w < (b.length : Int)) : ∀ m : List PL, m.foldl (cut1 w) b = b
  | [] => rfl
  | x :: m => by
    rw [List.foldl_cons, show cut1 w b x = b from if_neg h]
    exact cut_low h m
theorem leave_low {p : PL → Bool} {w n : Int} (h : ¬ w < n) : ∀ l out : List PL, (l.foldl (fun (st : Int × List PL) x => if (decide (w < st.1) && p x) = true then (st.1 - 1, st.2) else (st.1, st.2 ++ [x])) (n, out)).2 = out ++ l
  | [], out => by simp
  | x :: l, out => by
    rw [List.foldl_cons, if_neg (by simp [h]), leave_low h l]
    simp
theorem cut_leave (p : PL → Bool) (w : Int) : ∀ (l pre : List PL) (n : Int), n = ((pre ++ l).length : Int) → (∀ q ∈ pre, p q = false) →
    (l.filter p).foldl (cut1 w) (pre ++ l) = (l.foldl (fun (st : Int × List PL) x => if (decide (w < st.1) && p x) = true then (st.1 - 1, st.2) else (st.1, st.2 ++ [x])) (n, pre)).2
  | [], pre, n, _, _ => by simp
  | x :: l, pre, n, hn, hp => by
    cases hx : p x
    · rw [List.filter_cons_of_neg (by rw [hx]; simp), List.foldl_cons, if_neg (by simp [hx])]
      have := cut_leave p w l (pre ++ [x]) n (by rw [hn]; simp) (fun q hq => by
        rcases List.mem_append.1 hq with h | h
        · exact hp q h
        · rw [List.mem_singleton] at h; subst h; exact hx)
      rw [← this]
      simp
    · rw [List.filter_cons_of_pos hx, List.foldl_cons]
      by_cases hw : w < n
      · have hnx : x ∉ pre := fun h => by rw [hp x h] at hx; cases hx
        have he : cut1 w (pre ++ x :: l) x = pre ++ l := by
          unfold cut1
          rw [if_pos (by rw [← hn]; exact hw), List.erase_append_right _ hnx, List.erase_cons_head]
        rw [he, List.foldl_cons, if_pos (by simp [hx, hw])]
        exact cut_leave p w l pre (n - 1) (by rw [hn]; simp only [List.length_append, List.length_cons]; push_cast; omega) hp
      · have hw2 : ¬ w < ((pre ++ x :: l).length : Int) := by rw [← hn]; exact hw
        rw [show cut1 w (pre ++ x :: l) x = pre ++ x :: l from if_neg hw2, cut_low hw2, leave_low hw]
theorem cuts_leaveL (p : PL → Bool) (w : Int) (l : List PL) : (l.filter p).foldl (cut1 w) l = leaveL p w l := by
  have := cut_leave p w l [] (l.length : Int) (by simp) (by simp)
  rw [List.nil_append] at this
  rw [this]
  rfl
/-- the row while what is left is taken out -/
def cuts (w : Int) (m b : List PL) (k : Nat) : List PL := (m.take k).foldl (cut1 w) b
theorem cuts_zero (w : Int) (m b : List PL) : cuts w m b 0 = b := by unfold cuts; rw [List.take_zero]; rfl
theorem cuts_succ {w : Int} {m b : List PL} {k : Nat} {x : PL} (hx : m[k]? = some x) : cuts w m b (k + 1) = cut1 w (cuts w m b k) x := by
  unfold cuts
  rw [take_snoc hx, List.foldl_append]
  rfl
theorem cut1_len (w : Int) (b : List PL) (x : PL) : (cut1 w b x).length ≤ b.length := by
  unfold cut1
  split
  · rw [List.length_erase]
    split <;> omega
  · exact Nat.le_refl _
theorem cuts_len (w : Int) (m b : List PL) : ∀ k, (cuts w m b k).length ≤ b.length := by
  intro k
  unfold cuts
  generalize m.take k = l
  induction l generalizing b with
  | nil => exact Nat.le_refl _
  | cons x l ih => rw [List.foldl_cons]; exact Nat.le_trans (ih _) (cut1_len _ _ _)
theorem cut1_mem {w : Int} {b : List PL} {x : PL} : ∀ q ∈ cut1 w b x, q ∈ b := by
  intro q hq
  unfold cut1 at hq
  split at hq
  · exact List.mem_of_mem_erase hq
  · exact hq
theorem cuts_mem {w : Int} {m b : List PL} {k : Nat} : ∀ q ∈ cuts w m b k, q ∈ b := by
  unfold cuts
  generalize m.take k = l
  induction l generalizing b with
  | nil => intro q hq; exact hq
  | cons x l ih =>
    intro q hq
    rw [List.foldl_cons] at hq
    exact cut1_mem q (ih q hq)
theorem erase_at {b : List PL} {x : PL} {k : Nat} (hx : b[k]? = some x) (hn : (b.take k).contains x = false) : b.erase x = b.take k ++ b.drop (k + 1) := by
  obtain ⟨hk, rfl⟩ := List.getElem?_eq_some_iff.1 hx
  have hb : b = b.take k ++ b[k] :: b.drop (k + 1) := by rw [← List.drop_eq_getElem_cons hk, List.take_append_drop]
  generalize b[k] = y at hb hn
  have hnm : y ∉ b.take k := by simpa using hn
  have h2 : (b.take k ++ y :: b.drop (k + 1)).erase y = b.take k ++ b.drop (k + 1) := by
    rw [List.erase_append_right _ hnm, List.erase_cons_head]
  rw [← hb] at h2
  exact h2
theorem erase_none {b : List PL} {x : PL} (hn : b.contains x = false) : b.erase x = b := List.erase_of_not_mem (by simpa using hn)
end Go.Proofs.Ytnfjhpdpeihheaa
