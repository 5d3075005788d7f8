/- Plain mathematics: files, changes that wait, disks. -/
import Derived.Test.YticbfnflillokaaBase
namespace Go.Proofs.Yticbfnflillokaa
abbrev Bs := List UInt8
/-- files by their names, rising -/
abbrev Fs := List (Bs × Bs)
def Fs.get : Fs → Bs → Option Bs
  | [], _ => none
  | (k, b) :: r, n => if n = k then some b else Fs.get r n
def Fs.put : Fs → Bs → Bs → Fs
  | [], n, b => [(n, b)]
  | (k, c) :: r, n, b => if n = k then (n, b) :: r else if n < k then (n, b) :: (k, c) :: r else (k, c) :: Fs.put r n b
def Fs.del (F : Fs) (n : Bs) : Fs := F.filter fun p => p.1 ≠ n
def Fs.total : Fs → Nat
  | [] => 0
  | (_, b) :: r => b.length + Fs.total r
def Fs.size (F : Fs) (n : Bs) : Nat := ((F.get n).getD []).length
/-- rising by their names -/
def Fs.ok (F : Fs) : Prop := F.Pairwise fun p q => p.1 < q.1
theorem Fs.ok_nil : Fs.ok [] := List.Pairwise.nil
theorem blt_irrefl (a : Bs) : ¬ a < a := List.lt_irrefl a
theorem blt_trans {a b c : Bs} (h : a < b) (k : b < c) : a < c := List.lt_trans h k
theorem blt_tri {a b : Bs} (h : a ≠ b) (k : ¬ a < b) : b < a := by
  rcases Std.Trichotomous.rel_or_eq_or_rel_swap (r := ((· < ·) : Bs → Bs → Prop)) (a := a) (b := b) with h1 | h1 | h1
  · exact absurd h1 k
  · exact absurd h1 h
  · exact h1
theorem Fs.get_put_same (F : Fs) (n b : Bs) : (F.put n b).get n = some b := by
  induction F with
  | nil => simp [Fs.put, Fs.get]
  | cons p r ih =>
    obtain ⟨k, c⟩ := p
    unfold Fs.put
    split
    · simp [Fs.get]
    · split
      · simp [Fs.get]
      · simp [Fs.get, *]
theorem Fs.get_put_other (F : Fs) {n m : Bs} (b : Bs) (h : m ≠ n) : (F.put n b).get m = F.get m := by
  induction F with
  | nil => simp [Fs.put, Fs.get, h]
  | cons p r ih =>
    obtain ⟨k, c⟩ := p
    unfold Fs.put
    split
    · rename_i h1; subst h1; simp [Fs.get, h]
    · split
      · simp [Fs.get, h]
      · simp only [Fs.get, ih]
theorem Fs.get_put (F : Fs) (n m b : Bs) : (F.put n b).get m = if m = n then some b else F.get m := by
  split
  · rename_i h; rw [h, Fs.get_put_same]
  · rename_i h; exact Fs.get_put_other F b h
theorem Fs.get_del_same (F : Fs) (n : Bs) : (F.del n).get n = none := by
  induction F with
  | nil => rfl
  | cons p r ih =>
    obtain ⟨k, c⟩ := p
    unfold Fs.del at ih ⊢
    by_cases h : k = n
    · subst h; simpa using ih
    · rw [List.filter_cons_of_pos (by simpa using h)]
      simp only [Fs.get, if_neg (Ne.symm h)]
      exact ih
theorem Fs.get_del_other (F : Fs) {n m : Bs} (h : m ≠ n) : (F.del n).get m = F.get m := by
  induction F with
  | nil => rfl
  | cons p r ih =>
    obtain ⟨k, c⟩ := p
    unfold Fs.del at ih ⊢
    by_cases hk : k = n
    · subst hk
      rw [List.filter_cons_of_neg (by simp)]
      simp only [Fs.get, if_neg h]
      exact ih
    · rw [List.filter_cons_of_pos (by simpa using hk)]
      simp only [Fs.get]
      split
      · rfl
      · exact ih
theorem Fs.get_del (F : Fs) (n m : Bs) : (F.del n).get m = if m = n then none else F.get m := by
  split
  · rename_i h; rw [h, Fs.get_del_same]
  · rename_i h; exact Fs.get_del_other F h
theorem Fs.get_lt {F : Fs} {n : Bs} (h : ∀ p ∈ F, n < p.1) : F.get n = none := by
  induction F with
  | nil => rfl
  | cons p r ih =>
    have h0 := h p (by simp)
    obtain ⟨k, c⟩ := p
    have : n ≠ k := fun e => by subst e; exact blt_irrefl _ h0
    simp only [Fs.get, if_neg this]
    exact ih fun q hq => h q (by simp [hq])
theorem Fs.put_mem {F : Fs} {n b : Bs} {p : Bs × Bs} (h : p ∈ F.put n b) : p = (n, b) ∨ p ∈ F := by
  induction F with
  | nil => simpa [Fs.put] using h
  | cons q r ih =>
    obtain ⟨k, c⟩ := q
    unfold Fs.put at h
    split at h
    · rcases List.mem_cons.1 h with h | h
      · exact .inl h
      · exact .inr (by simp [h])
    · split at h
      · rcases List.mem_cons.1 h with h | h
        · exact .inl h
        · exact .inr h
      · rcases List.mem_cons.1 h with h | h
        · exact .inr (by simp [h])
        · rcases ih h with h | h
          · exact .inl h
          · exact .inr (by simp [h])
theorem Fs.ok_put {F : Fs} (h : F.ok) (n b : Bs) : (F.put n b).ok := by
  induction F with
  | nil => simp [Fs.put, Fs.ok]
  | cons q r ih =>
    obtain ⟨k, c⟩ := q
    obtain ⟨h1, h2⟩ := List.pairwise_cons.1 h
    unfold Fs.put
    split
    · rename_i e; subst e
      exact List.pairwise_cons.2 ⟨h1, h2⟩
    · rename_i hne
      split
      · rename_i hlt
        refine List.pairwise_cons.2 ⟨fun p hp => ?_, h⟩
        rcases List.mem_cons.1 hp with rfl | hp
        · exact hlt
        · exact blt_trans hlt (h1 p hp)
      · rename_i hlt
        refine List.pairwise_cons.2 ⟨fun p hp => ?_, ih h2⟩
        rcases Fs.put_mem hp with rfl | hp
        · exact blt_tri hne hlt
        · exact h1 p hp
theorem Fs.ok_del {F : Fs} (h : F.ok) (n : Bs) : (F.del n).ok := List.Pairwise.filter _ h
theorem Fs.total_put {F : Fs} (h : F.ok) (n b : Bs) : (F.put n b).total + F.size n = F.total + b.length := by
  induction F with
  | nil => simp [Fs.put, Fs.total, Fs.size, Fs.get]
  | cons q r ih =>
    obtain ⟨k, c⟩ := q
    obtain ⟨h1, h2⟩ := List.pairwise_cons.1 h
    have ih := ih h2
    unfold Fs.put
    split
    · rename_i e; subst e
      simp [Fs.total, Fs.size, Fs.get]; omega
    · rename_i hne
      split
      · rename_i hlt
        have : Fs.get r n = none := Fs.get_lt fun p hp => blt_trans hlt (h1 p hp)
        simp [Fs.total, Fs.size, Fs.get, hne, this]; omega
      · simp only [Fs.total, Fs.size, Fs.get, if_neg hne] at ih ⊢
        omega
theorem Fs.total_del {F : Fs} (h : F.ok) (n : Bs) : (F.del n).total + F.size n = F.total := by
  induction F with
  | nil => simp [Fs.del, Fs.total, Fs.size, Fs.get]
  | cons q r ih =>
    obtain ⟨k, c⟩ := q
    obtain ⟨h1, h2⟩ := List.pairwise_cons.1 h
    have ih := ih h2
    unfold Fs.del at ih ⊢
    by_cases hk : k = n
    · subst hk
      rw [List.filter_cons_of_neg (by simp)]
      have : Fs.get r k = none := Fs.get_lt fun p hp => h1 p hp
      simp only [Fs.total, Fs.size, Fs.get, if_true, Option.getD_some, this, Option.getD_none, List.length_nil] at ih ⊢
      omega
    · rw [List.filter_cons_of_pos (by simpa using hk)]
      simp only [Fs.total, Fs.size, Fs.get, if_neg (Ne.symm hk)] at ih ⊢
      omega
theorem Fs.size_le {F : Fs} (h : F.ok) (n : Bs) : F.size n ≤ F.total := by have := Fs.total_del h n; omega
/-- of rising files those that are told alike at each name are the same -/
theorem Fs.ext {F G : Fs} (hF : F.ok) (hG : G.ok) (h : ∀ n, F.get n = G.get n) : F = G := by
  induction F generalizing G with
  | nil =>
    cases G with
    | nil => rfl
    | cons p r => have := h p.1; simp [Fs.get] at this
  | cons p r ih =>
    obtain ⟨k, c⟩ := p
    obtain ⟨h1, h2⟩ := List.pairwise_cons.1 hF
    cases G with
    | nil => have := h k; simp [Fs.get] at this
    | cons q s =>
      obtain ⟨k', c'⟩ := q
      obtain ⟨g1, g2⟩ := List.pairwise_cons.1 hG
      have e : k = k' := by
        by_cases e : k = k'
        · exact e
        · by_cases hlt : k < k'
          · have := h k
            rw [Fs.get_lt (F := (k', c') :: s) fun p hp => by
              rcases List.mem_cons.1 hp with rfl | hp
              · exact hlt
              · exact blt_trans hlt (g1 p hp)] at this
            simp [Fs.get] at this
          · have hlt := blt_tri e hlt
            have := h k'
            rw [Fs.get_lt (F := (k, c) :: r) fun p hp => by
              rcases List.mem_cons.1 hp with rfl | hp
              · exact hlt
              · exact blt_trans hlt (h1 p hp)] at this
            simp [Fs.get] at this
      subst e
      have hc : c = c' := by have := h k; simpa [Fs.get] using this
      subst hc
      rw [ih h2 g2 fun n => ?_]
      by_cases e : n = k
      · subst e
        rw [Fs.get_lt h1, Fs.get_lt g1]
      · have := h n
        simpa [Fs.get, e] using this

/-- a change that waits -/
inductive Ch
  | app (n t : Bs)
  | put (n t : Bs)
  | ren (n m : Bs)
  | rem (n : Bs)
def Ch.do : Ch → Fs → Fs
  | .app n t, F => F.put n (((F.get n).getD []) ++ t)
  | .put n t, F => F.put n t
  | .ren n m, F => (F.put m ((F.get n).getD [])).del n
  | .rem n, F => F.del n
/-- what a crash leaves of it, torn at k bytes -/
def Ch.tear : Ch → Int → Fs → Fs
  | .app n t, k, F => if 0 < min (max k 0) t.length then F.put n (((F.get n).getD []) ++ t.take (min (max k 0) t.length).toNat) else F
  | _, _, F => F
def Ch.names : Ch → List Bs
  | .app n _ => [n]
  | .put n _ => [n]
  | .ren n m => [n, m]
  | .rem n => [n]
def Ch.fine (c : Ch) : Prop := match c with | .ren n m => n ≠ m | _ => True
theorem Ch.ok_do (c : Ch) {F : Fs} (h : F.ok) : (c.do F).ok := by
  cases c with
  | app n t => exact Fs.ok_put h _ _
  | put n t => exact Fs.ok_put h _ _
  | ren n m => exact Fs.ok_del (Fs.ok_put h _ _) _
  | rem n => exact Fs.ok_del h _
theorem Ch.ok_tear (c : Ch) (k : Int) {F : Fs} (h : F.ok) : (c.tear k F).ok := by
  cases c with
  | app n t => simp only [Ch.tear]; split; exact Fs.ok_put h _ _; exact h
  | _ => exact h
def doAll (cs : List Ch) (F : Fs) : Fs := cs.foldl (fun F c => c.do F) F
theorem doAll_ok : ∀ (cs : List Ch) {F : Fs}, F.ok → (doAll cs F).ok
  | [], _, h => h
  | c :: cs, _, h => doAll_ok cs (c.ok_do h)
theorem doAll_snoc (cs : List Ch) (c : Ch) (F : Fs) : doAll (cs ++ [c]) F = c.do (doAll cs F) := by simp [doAll]
/-- a disk, as it stands -/
structure Dk where
  synced : Fs
  seen : Fs
  waits : List Ch
  cap : Nat
  serial : Nat
  down : Bool
/-- what holds of each disk: what is seen is what lasts with all that waits done; of all beginnings of what waits the bytes are within the capacity -/
structure Dk.ok (d : Dk) : Prop where
  rises : d.synced.ok
  sees : d.seen = doAll d.waits d.synced
  fits : ∀ i, i ≤ d.waits.length → (doAll (d.waits.take i) d.synced).total ≤ d.cap
  cap : d.cap ≤ 65536
theorem Dk.ok.total {d : Dk} (h : d.ok) : d.seen.total ≤ d.cap := by
  have := h.fits d.waits.length (Nat.le_refl _)
  rwa [List.take_length, ← h.sees] at this
theorem Dk.ok.total0 {d : Dk} (h : d.ok) : d.synced.total ≤ d.cap := h.fits 0 (Nat.zero_le _)
end Go.Proofs.Yticbfnflillokaa
