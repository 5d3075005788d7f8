/- Rows of marks in plain mathematics: what goes into a row that rises; what a row says of a producer; rows joined. -/
import Derived.Test.YtclchlcfcnlmhaaBase
namespace Go.Proofs.Ytclchlcfcnlmhaa
/-- a row that rises by its producers -/
def Ris (l : List MK) : Prop := l.Pairwise fun a b => a.p < b.p
/-- a row that may be -/
structure MayR (l : List MK) : Prop where
  len : l.length ≤ 6
  may : ∀ m ∈ l, m.may
  ris : Ris l
/-- what a row says of a producer -/
def look (l : List MK) (p : Int) : Option MK := l.find? fun m => m.p == p
/-- a message goes into a row -/
def ins : List MK → MK → List MK
  | [], m => [m]
  | x :: r, m => if m.p < x.p then m :: x :: r else if m.p = x.p then (if x.s < m.s then m :: r else x :: r) else x :: ins r m
def best : Option MK → MK → MK
  | none, m => m
  | some a, m => if a.s < m.s then m else a
def best' : Option MK → Option MK → Option MK
  | x, none => x
  | x, some m => some (best x m)
theorem look_cons (x : MK) (l : List MK) (p : Int) : look (x :: l) p = if x.p = p then some x else look l p := by
  unfold look
  rw [List.find?_cons]
  by_cases h : x.p = p
  · simp [h]
  · rw [if_neg h]
    have : (x.p == p) = false := by simp [h]
    rw [this]
theorem look_mem {l : List MK} {p : Int} {m : MK} (h : look l p = some m) : m ∈ l ∧ m.p = p := by
  unfold look at h
  exact ⟨List.mem_of_find?_eq_some h, by have := List.find?_some h; simpa using this⟩
theorem look_none {l : List MK} {p : Int} : look l p = none ↔ ∀ m ∈ l, m.p ≠ p := by
  unfold look
  rw [List.find?_eq_none]
  simp
theorem look_of_mem {l : List MK} (h : Ris l) {m : MK} (hm : m ∈ l) : look l m.p = some m := by
  induction l with
  | nil => cases hm
  | cons x l ih =>
    rw [look_cons]
    have h' := List.pairwise_cons.1 h
    rcases List.mem_cons.1 hm with rfl | hm
    · rw [if_pos rfl]
    · rw [if_neg (by have := h'.1 m hm; omega)]
      exact ih h'.2 hm
theorem mem_ins {l : List MK} {m q : MK} (h : q ∈ ins l m) : q ∈ l ∨ q = m := by
  induction l with
  | nil => unfold ins at h; exact .inr (by simpa using h)
  | cons x l ih =>
    unfold ins at h
    split at h
    · rcases List.mem_cons.1 h with h | h
      · exact .inr h
      · exact .inl h
    · split at h
      · split at h
        · rcases List.mem_cons.1 h with h | h
          · exact .inr h
          · exact .inl (List.mem_cons_of_mem _ h)
        · exact .inl h
      · rcases List.mem_cons.1 h with h | h
        · exact .inl (by rw [h]; exact List.mem_cons_self)
        · rcases ih h with h | h
          · exact .inl (List.mem_cons_of_mem _ h)
          · exact .inr h
theorem ris_ins {l : List MK} (h : Ris l) (m : MK) : Ris (ins l m) := by
  induction l with
  | nil => unfold ins; exact List.pairwise_singleton _ _
  | cons x l ih =>
    obtain ⟨h1, h2⟩ := List.pairwise_cons.1 h
    unfold ins
    split
    · rename_i hlt
      refine List.pairwise_cons.2 ⟨fun q hq => ?_, h⟩
      rcases List.mem_cons.1 hq with rfl | hq
      · exact hlt
      · have := h1 q hq; omega
    · split
      · rename_i he
        split
        · exact List.pairwise_cons.2 ⟨fun q hq => by have := h1 q hq; omega, h2⟩
        · exact h
      · refine List.pairwise_cons.2 ⟨fun q hq => ?_, ih h2⟩
        rcases mem_ins hq with hq | rfl
        · exact h1 q hq
        · omega
theorem may_ins {l : List MK} (h : ∀ q ∈ l, q.may) {m : MK} (hm : m.may) : ∀ q ∈ ins l m, q.may := fun q hq => by
  rcases mem_ins hq with hq | rfl
  · exact h q hq
  · exact hm
theorem look_ins {l : List MK} (h : Ris l) (m : MK) (p : Int) : look (ins l m) p = if m.p = p then some (best (look l p) m) else look l p := by
  induction l with
  | nil =>
    unfold ins
    rw [look_cons]
    rfl
  | cons x l ih =>
    obtain ⟨h1, h2⟩ := List.pairwise_cons.1 h
    have hno : ∀ q, q ≤ x.p → look l q = none := fun q hq => look_none.2 fun y hy => by have := h1 y hy; omega
    unfold ins
    split
    · rename_i hlt
      rw [look_cons]
      by_cases hp : m.p = p
      · rw [if_pos hp, if_pos hp, look_cons, if_neg (by omega), hno p (by omega)]
        rfl
      · rw [if_neg hp, if_neg hp]
    · split
      · rename_i hlt he
        by_cases hp : m.p = p
        · have hxp : x.p = p := by omega
          rw [if_pos hp, look_cons, if_pos hxp]
          unfold best
          simp only
          split
          · rw [look_cons, if_pos hp]
          · rw [look_cons, if_pos hxp]
        · rw [if_neg hp]
          split
          · rw [look_cons, look_cons, if_neg hp, if_neg (by omega)]
          · rfl
      · rename_i hlt he
        rw [look_cons, look_cons, ih h2]
        by_cases hp : m.p = p
        · rw [if_pos hp, if_pos hp, if_neg (by omega), if_neg (by omega)]
        · rw [if_neg hp, if_neg hp]
theorem len_ins {l : List MK} (h : Ris l) (m : MK) : (ins l m).length = if look l m.p = none then l.length + 1 else l.length := by
  induction l with
  | nil => rfl
  | cons x l ih =>
    obtain ⟨h1, h2⟩ := List.pairwise_cons.1 h
    have hno : ∀ q, q ≤ x.p → look l q = none := fun q hq => look_none.2 fun y hy => by have := h1 y hy; omega
    unfold ins
    rw [look_cons]
    by_cases hlt : m.p < x.p
    · rw [if_pos hlt, if_neg (show ¬ x.p = m.p by omega), hno _ (by omega)]
      simp
    · rw [if_neg hlt]
      by_cases he : m.p = x.p
      · rw [if_pos he, if_pos he.symm, if_neg (show ¬ (some x = none) by simp)]
        split <;> simp
      · rw [if_neg he, if_neg (show ¬ x.p = m.p by omega), List.length_cons, ih h2]
        split <;> simp
theorem ris_ext : ∀ {a b : List MK}, Ris a → Ris b → (∀ p, look a p = look b p) → a = b
  | [], [], _, _, _ => rfl
  | [], y :: b, _, _, h => by have := h y.p; rw [look_cons, if_pos rfl] at this; cases this
  | x :: a, [], _, _, h => by have := h x.p; rw [look_cons, if_pos rfl] at this; cases this
  | x :: a, y :: b, ha, hb, h => by
    obtain ⟨a1, a2⟩ := List.pairwise_cons.1 ha
    obtain ⟨b1, b2⟩ := List.pairwise_cons.1 hb
    have hx := h x.p
    have hy := h y.p
    rw [look_cons, if_pos rfl, look_cons] at hx
    rw [look_cons, look_cons, if_pos rfl] at hy
    have e : x.p = y.p := by
      by_cases e : x.p = y.p
      · exact e
      · rw [if_neg (fun k => e k.symm)] at hx
        rw [if_neg e] at hy
        have m1 := (look_mem hx.symm).1
        have m2 := (look_mem hy).1
        have := a1 _ m2
        have := b1 _ m1
        omega
    rw [if_pos e.symm] at hx
    cases hx
    congr 1
    refine ris_ext a2 b2 fun p => ?_
    have := h p
    rw [look_cons, look_cons] at this
    by_cases hp : x.p = p
    · rw [look_none.2 fun m hm => by have := a1 m hm; omega, look_none.2 fun m hm => by have := b1 m hm; omega]
    · rwa [if_neg hp, if_neg hp] at this
/-- messages go into a row, one behind the other -/
def merge (l ms : List MK) : List MK := ms.foldl ins l
theorem merge_nil (l : List MK) : merge l [] = l := rfl
theorem merge_cons (l : List MK) (m : MK) (ms : List MK) : merge l (m :: ms) = merge (ins l m) ms := rfl
theorem merge_app (l a b : List MK) : merge l (a ++ b) = merge (merge l a) b := List.foldl_append
theorem ris_merge {l : List MK} (h : Ris l) (ms : List MK) : Ris (merge l ms) := by
  induction ms generalizing l with
  | nil => exact h
  | cons m ms ih => exact ih (ris_ins h m)
theorem may_merge {l ms : List MK} (h : ∀ q ∈ l, q.may) (hm : ∀ q ∈ ms, q.may) : ∀ q ∈ merge l ms, q.may := by
  induction ms generalizing l with
  | nil => exact h
  | cons m ms ih => exact ih (may_ins h (hm m List.mem_cons_self)) fun q hq => hm q (List.mem_cons_of_mem _ hq)
theorem ins_le {l : List MK} (h : Ris l) (m : MK) : l.length ≤ (ins l m).length := by
  rw [len_ins h]
  split <;> omega
theorem merge_le {l : List MK} (h : Ris l) (ms : List MK) : l.length ≤ (merge l ms).length := by
  induction ms generalizing l with
  | nil => exact Nat.le_refl _
  | cons m ms ih => exact Nat.le_trans (ins_le h m) (ih (ris_ins h m))
/-- .. as long as each finds room -/
def intoR : List MK → List MK → Option (List MK)
  | l, [] => some l
  | l, m :: r => if look l m.p = none ∧ 6 ≤ l.length then none else intoR (ins l m) r
theorem intoR_cons (l : List MK) (m : MK) (r : List MK) : intoR l (m :: r) = if look l m.p = none ∧ 6 ≤ l.length then none else intoR (ins l m) r := rfl
theorem intoR_eq {l : List MK} (h : Ris l) (hl : l.length ≤ 6) (ms : List MK) : intoR l ms = if (merge l ms).length ≤ 6 then some (merge l ms) else none := by
  induction ms generalizing l with
  | nil => rw [merge_nil, if_pos hl]; rfl
  | cons m ms ih =>
    rw [intoR_cons, merge_cons]
    have hi := len_ins h m
    have hm := merge_le (ris_ins h m) ms
    by_cases hc : look l m.p = none ∧ 6 ≤ l.length
    · rw [if_pos hc.1] at hi
      have := hc.2
      rw [if_pos hc, if_neg (show ¬ (merge (ins l m) ms).length ≤ 6 by omega)]
    · rw [if_neg hc]
      refine ih (ris_ins h m) ?_
      by_cases hn : look l m.p = none
      · rw [if_pos hn] at hi
        have : ¬ 6 ≤ l.length := fun h6 => hc ⟨hn, h6⟩
        omega
      · rw [if_neg hn] at hi
        omega
theorem intoR_app (l a b : List MK) : intoR l (a ++ b) = (intoR l a).bind fun x => intoR x b := by
  induction a generalizing l with
  | nil => rfl
  | cons m a ih =>
    rw [List.cons_append, intoR_cons, intoR_cons]
    split
    · rfl
    · rw [ih]
/-- what a row, then messages, say of a producer -/
def says (p : Int) (acc : Option MK) (ms : List MK) : Option MK := ms.foldl (fun acc x => if x.p = p then some (best acc x) else acc) acc
theorem look_merge {l : List MK} (h : Ris l) (ms : List MK) (p : Int) : look (merge l ms) p = says p (look l p) ms := by
  induction ms generalizing l with
  | nil => rfl
  | cons m ms ih => rw [merge_cons, ih (ris_ins h m), look_ins h]; rfl
theorem best_assoc (x : Option MK) (y : Option MK) (m : MK) : best' x (some (best y m)) = some (best (best' x y) m) := by
  cases x with
  | none => cases y with
    | none => rfl
    | some b => rfl
  | some a => cases y with
    | none => rfl
    | some b =>
      simp only [best', best]
      congr 1
      repeat' split
      all_goals first | rfl | (exfalso; omega)
theorem best'_none (x : Option MK) : best' none x = x := by cases x <;> rfl
theorem best'_assoc (x y z : Option MK) : best' (best' x y) z = best' x (best' y z) := by
  cases z with
  | none => rfl
  | some m => exact (best_assoc x y m).symm
theorem best'_self (x : Option MK) : best' x x = x := by
  cases x with
  | none => rfl
  | some a => simp [best', best]
theorem says_best (p : Int) (ms : List MK) (x acc : Option MK) : best' x (says p acc ms) = says p (best' x acc) ms := by
  induction ms generalizing acc with
  | nil => rfl
  | cons m ms ih =>
    unfold says at ih ⊢
    rw [List.foldl_cons, List.foldl_cons, ih]
    congr 1
    split
    · exact best_assoc x acc m
    · rfl
theorem says_row {b : List MK} (h : Ris b) (p : Int) (x : Option MK) : says p x b = best' x (look b p) := by
  induction b generalizing x with
  | nil => rfl
  | cons m b ih =>
    obtain ⟨h1, h2⟩ := List.pairwise_cons.1 h
    have := ih h2 (if m.p = p then some (best x m) else x)
    unfold says at this ⊢
    rw [List.foldl_cons, this, look_cons]
    by_cases hp : m.p = p
    · rw [if_pos hp, if_pos hp, look_none.2 fun y hy => by have := h1 y hy; omega]
      rfl
    · rw [if_neg hp, if_neg hp]
theorem look_join {a b : List MK} (ha : Ris a) (hb : Ris b) (p : Int) : look (merge a b) p = best' (look a p) (look b p) := by
  rw [look_merge ha, says_row hb]
/-- rows joined, the first two ahead or the last two -/
theorem join_assoc {a b c : List MK} (ha : Ris a) (hb : Ris b) (hc : Ris c) : merge (merge a b) c = merge a (merge b c) :=
  ris_ext (ris_merge (ris_merge ha b) c) (ris_merge ha _) fun p => by
    rw [look_join (ris_merge ha b) hc, look_join ha hb, look_join ha (ris_merge hb c), look_join hb hc, best'_assoc]
theorem join_self {a : List MK} (ha : Ris a) : merge a a = a := ris_ext (ris_merge ha a) ha fun p => by rw [look_join ha ha, best'_self]
theorem join_parts {a : List MK} (ha : Ris a) (ms : List MK) : merge a (merge [] ms) = merge a ms :=
  ris_ext (ris_merge ha _) (ris_merge ha _) fun p => by
    rw [look_join ha (ris_merge (show Ris [] from List.Pairwise.nil) ms), look_merge (show Ris [] from List.Pairwise.nil), says_best, look_merge ha]
    rfl
end Go.Proofs.Ytclchlcfcnlmhaa
