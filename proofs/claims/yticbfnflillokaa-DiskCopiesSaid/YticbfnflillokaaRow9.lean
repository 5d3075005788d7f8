/- The document's disk: Do. -/
import Derived.Test.YticbfnflillokaaRow8
namespace Go.Proofs.Yticbfnflillokaa
open Go.RowKit
/-- what Do answers and leaves, by its number -/
def Dk.ask (d : Dk) (o : Int) (n t b : Bs) : Int × Dk := if o = 0 then d.append n b else if o = 1 then d.putF n b else if o = 2 then d.rename n t else d.remove n
/-- Do as the document says it -/
def Dk.says (d : Dk) (c : CV) : Int × Dk :=
  if d.down then (6, d) else if isName c.n = false ∨ (c.o = 2 ∧ isName c.t = false) then (1, d) else if 2 ≤ c.o ∧ (d.seen.get c.n).isSome = false then (4, d)
  else if c.o = 2 ∧ c.n = c.t then (0, d) else if d.cap < (c.ch.do d.seen).total then (3, d) else (0, d.add c.ch)
theorem ren_total {F : Fs} (h : F.ok) (n m : Bs) : (((F.put m ((F.get n).getD [])).del n)).total ≤ F.total := by
  have h1 := Fs.total_put h m ((F.get n).getD [])
  have h2 := Fs.total_del (Fs.ok_put h m ((F.get n).getD [])) n
  have h3 : F.size n = ((F.get n).getD []).length := rfl
  by_cases e : n = m
  · subst e
    have h5 : (F.put n ((F.get n).getD [])).size n = F.size n := by unfold Fs.size; rw [Fs.get_put_same]; rfl
    omega
  · have h5 : (F.put m ((F.get n).getD [])).size n = F.size n := by unfold Fs.size; rw [Fs.get_put_other _ _ e]
    omega
theorem Dk.says_ask {d : Dk} (h : d.ok) (c : CV) (ho : 0 ≤ c.o ∧ c.o ≤ 3) : d.says c = d.ask c.o c.n c.t c.b := by
  obtain ⟨o, n, t, b, ca, cc⟩ := c
  dsimp only at ho
  have hs := h.seenok
  unfold Dk.says Dk.ask
  dsimp only
  cases hd : d.down
  case true =>
    rw [if_pos rfl]
    have e1 : ∀ ns, refuse d ns = 6 := fun ns => by unfold refuse; simp [hd]
    have e2 : ∀ n ns, lack d n ns = 6 := fun n ns => by unfold lack; rw [e1]; rfl
    rcases (by omega : o = 0 ∨ o = 1 ∨ o = 2 ∨ o = 3) with rfl | rfl | rfl | rfl
    · simp [Dk.append, e1]
    · simp [Dk.putF, e1]
    · simp [Dk.rename, e2]
    · simp [Dk.remove, e2]
  case false =>
  rw [if_neg (by simp)]
  have r1 : refuse d [n] = if isName n = true then 0 else 1 := by unfold refuse; simp [hd]
  rcases (by omega : o = 0 ∨ o = 1 ∨ o = 2 ∨ o = 3) with rfl | rfl | rfl | rfl
  · have e : (CV.ch ⟨0, n, t, b, ca, cc⟩) = .app n b := rfl
    rw [e]
    unfold Dk.append
    rw [r1]
    cases hn : isName n
    · simp
    · have ht : ((Ch.app n b).do d.seen).total = d.seen.total + b.length := by
        have := Fs.total_put hs n ((d.seen.get n).getD [] ++ b)
        rw [List.length_append] at this
        have h3 : d.seen.size n = ((d.seen.get n).getD []).length := rfl
        show (d.seen.put n ((d.seen.get n).getD [] ++ b)).total = _
        omega
      rw [ht]
      simp
  · have e : (CV.ch ⟨1, n, t, b, ca, cc⟩) = .put n b := rfl
    rw [e]
    unfold Dk.putF
    rw [r1]
    cases hn : isName n
    · simp
    · have ht := Fs.total_put hs n b
      have e2 : (d.cap < ((Ch.put n b).do d.seen).total) ↔ (d.cap + d.seen.size n < d.seen.total + b.length) := by
        show d.cap < (d.seen.put n b).total ↔ _
        omega
      simp [e2]
  · have e : (CV.ch ⟨2, n, t, b, ca, cc⟩) = .ren n t := rfl
    rw [e]
    have r2 : refuse d [n, t] = if isName n = true ∧ isName t = true then 0 else 1 := by unfold refuse; simp [hd]
    have l2 : lack d n [t] = if isName n = true ∧ isName t = true then (if (d.seen.get n).isSome = true then 0 else 4) else 1 := by
      unfold lack; rw [r2]
      split <;> simp
    have ht : ¬ d.cap < ((Ch.ren n t).do d.seen).total := by
      have h1 := ren_total hs n t
      have h2 := h.total
      show ¬ d.cap < (((d.seen.put t ((d.seen.get n).getD [])).del n)).total
      omega
    unfold Dk.rename
    rw [l2]
    cases hn : isName n
    · simp
    · cases hm : isName t
      · simp
      · cases hg : (d.seen.get n).isSome
        · simp
        · by_cases hnt : n = t
          · simp [hnt]
          · simp [hnt, ht]
  · have e : (CV.ch ⟨3, n, t, b, ca, cc⟩) = .rem n := rfl
    rw [e]
    have l2 : lack d n [] = if isName n = true then (if (d.seen.get n).isSome = true then 0 else 4) else 1 := by
      unfold lack; rw [r1]
      split <;> simp
    have ht : ¬ d.cap < ((Ch.rem n).do d.seen).total := by
      have h1 := Fs.total_del hs n
      have h2 := h.total
      show ¬ d.cap < (d.seen.del n).total
      omega
    unfold Dk.remove
    rw [l2]
    cases hn : isName n
    · simp
    · cases hg : (d.seen.get n).isSome
      · simp
      · simp [ht]
end Go.Proofs.Yticbfnflillokaa
