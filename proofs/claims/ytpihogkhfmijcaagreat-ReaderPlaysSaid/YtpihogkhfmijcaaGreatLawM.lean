/- What the laws ask of one call; what holds of their fetch. -/
import Derived.Test.YtpihogkhfmijcaaGreatFSame
namespace Go.Proofs.YtpihogkhfmijcaaGreat
open Go.RowKit Go.Maps Go.Shelf
set_option linter.unusedSimpArgs false
/-- what holds of the fetch of the laws -/
structure FInv (n : Int) (m : FeM) : Prop where
  inn : m.In
  nn : m.n = n
  n1 : 1 ≤ n
  body : m.body.length ≤ 5000
theorem small_frags {fs : List FV} (h : ¬ LongFr fs) : ∀ x ∈ fs, x.ps.length ≤ 100000 := fun x hx => by
  by_cases h2 : 30 < x.ps.length
  · exact absurd (.inr ⟨x, hx, h2⟩) h
  · omega
theorem ask_inv {n : Int} {m : FeM} (h : FInv n m) (now : Int) : FInv n (m.askM now).1 := ⟨h.inn.ask now, h.nn, h.n1, h.body⟩
theorem next_inv {n : Int} {m : FeM} (h : FInv n m) : FInv n m.next := ⟨h.inn.next, h.nn, h.n1, h.body⟩
theorem pass_inv {n : Int} {m : FeM} (h : FInv n m) (now : Int) : FInv n (m.passM now).1 := ask_inv (next_inv h) now
theorem new_inv {l : LgV} {n tag now : Int} (h : NewOk l n) : FInv n (newM l n tag now).1 := by
  have hl := ledger_len h.1 h.2.1
  have hw := h.1.2.1
  refine ⟨⟨by show (0 : Int) ≤ 0; omega, ?_, ?_⟩, rfl, h.2.1, by show 0 ≤ 5000; omega⟩
  · show (0 : Int) < ((setV l.fs l.W n).length : Int)
    omega
  · show (setV l.fs l.W n).length ≤ 1000
    omega
theorem tick_inv {n : Int} {m : FeM} (h : FInv n m) (now : Int) : FInv n (m.still (m.tickM now)).1 := by
  unfold FeM.still FeM.tickM
  split
  · exact h
  · split
    · exact pass_inv h now
    · exact h
theorem take_inv {n : Int} {m : FeM} (h : FInv n m) (now : Int) (r : RsV) (hr : r.body.length ≤ 5000) : FInv n (m.still (m.takeM now r)).1 := by
  unfold FeM.still
  split
  · exact h
  · unfold FeM.takeM FeM.foundM
    split
    · split
      · dsimp only
        split
        · exact ⟨⟨h.inn.lo, h.inn.hi, h.inn.len⟩, h.nn, h.n1, hr⟩
        · exact h
      · split
        · split
          · exact pass_inv h now
          · exact h
        · split
          · split
            · exact pass_inv h now
            · exact h
          · exact h
    · exact h
theorem moved_inv {n : Int} {m : FeM} (h : FInv n m) (now : Int) (l : LgV) : FInv n (m.still (m.movedM now l)).1 := by
  unfold FeM.still
  split
  · exact h
  · unfold FeM.movedM
    split
    · rename_i hm
      split
      · exact h
      · have hl := ledger_len hm.2 (show 1 ≤ m.n by rw [h.nn]; exact h.n1)
        have hw := hm.2.2.1
        refine ⟨⟨by show (0 : Int) ≤ 0; omega, ?_, ?_⟩, h.nn, h.n1, h.body⟩
        · show (0 : Int) < ((setV l.fs l.W m.n).length : Int)
          omega
        · show (setV l.fs l.W m.n).length ≤ 1000
          omega
    · exact h
/-- what the law asks of one call -/
structure Stays (n : Int) (was : FeM) (frm : PL) (M : FeM × List RqM) : Prop where
  one : M.2.length ≤ 1
  still : was.done = 1 → M = (was, [])
  to : ∀ q, M.2[0]? = some q → q.to = M.1.cur ∧ q.n = n
  done : M.1.done = 1 → ¬ was.done = 1 → frm ∈ was.set
theorem stays_none {n : Int} {m : FeM} {frm : PL} : Stays n m frm (m, []) := ⟨Nat.zero_le _, fun _ => rfl, fun q h => (by cases h), fun h h2 => absurd h h2⟩
theorem stays_ask {n : Int} {m m' : FeM} {frm : PL} (h : m'.n = n) (hd : m'.done = m.done) (h1 : ¬ m.done = 1) (now : Int) : Stays n m frm (m'.askM now) :=
  ⟨Nat.le_refl _, fun h => absurd h h1, fun q hq => by
    have hq' : some (⟨m'.set.getD m'.at'.toNat default, m'.id, m'.n, m'.tag⟩ : RqM) = some q := hq
    cases hq'
    exact ⟨rfl, h⟩, fun h2 h3 => absurd (show m.done = 1 by rw [← hd]; exact h2) h1⟩
theorem stays_pass {n : Int} {m : FeM} {frm : PL} (h : FInv n m) (h1 : ¬ m.done = 1) (now : Int) : Stays n m frm (m.passM now) := stays_ask (m := m) (m' := m.next) h.nn rfl h1 now
theorem stays_tick {n : Int} {m : FeM} (frm : PL) (h : FInv n m) (now : Int) : Stays n m frm (m.still (m.tickM now)) := by
  unfold FeM.still FeM.tickM
  split
  · exact stays_none
  · rename_i h1
    split
    · exact stays_pass h h1 now
    · exact stays_none
theorem stays_moved {n : Int} {m : FeM} (frm : PL) (h : FInv n m) (now : Int) (l : LgV) : Stays n m frm (m.still (m.movedM now l)) := by
  unfold FeM.still
  split
  · exact stays_none
  · rename_i h1
    unfold FeM.movedM
    split
    · split
      · exact stays_none
      · exact stays_ask (m := m) (m' := { m with set := setV l.fs l.W m.n, at' := 0 }) h.nn rfl h1 now
    · exact stays_none
theorem stays_take {n : Int} {m : FeM} (h : FInv n m) (now : Int) (r : RsV) : Stays n m r.frm (m.still (m.takeM now r)) := by
  unfold FeM.still
  split
  · exact stays_none
  · rename_i h1
    unfold FeM.takeM FeM.foundM
    split
    · split
      · split
        · rename_i hf
          exact ⟨Nat.zero_le _, fun hh => absurd hh h1, fun q hq => (by cases hq), fun _ _ => hf⟩
        · exact stays_none
      · split
        · split
          · exact stays_pass h h1 now
          · exact stays_none
        · split
          · split
            · exact stays_pass h h1 now
            · exact stays_none
          · exact stays_none
    · exact stays_none
/-- what a fetch has lies beside the block g -/
def Sep (y : FeV) (g : Nat) : Prop := ∀ b, (ab y.sa = some b ∧ 0 < y.set.length) ∨ (ab y.ba = some b ∧ 0 < y.body.length) → b ≠ g
theorem row_lt {α : Type} {P : World → α → Prop} {k : Nat} {enc : α → List Value} {W : World} {a : Option Addr} {n c : Nat} {l : List α} (h : RowAt P k enc W (.slice a n c) l) (h0 : 0 < l.length) {b : Nat} (e : ab a = some b) : b < W.heap.size := by
  obtain ⟨a', cap, hv, -, -, -, hh⟩ := h
  cases hv
  obtain ⟨b', off, he, hl, -⟩ := hh h0
  subst he
  cases e
  exact hl
theorem Sep.of_ok {W : World} {y : FeV} {g : Nat} (h : y.ok W) (hg : W.heap.size ≤ g) : Sep y g := fun b hb => by
  rcases hb with ⟨e, h0⟩ | ⟨e, h0⟩
  · have := row_lt h.st h0 e; omega
  · have := row_lt h.bd h0 e; omega
theorem Sep.of_new {Z : World} {y : FeV} {ra : Option Addr} {g : Nat} (hk : ∀ b, y.blk b ∨ ab ra = some b → Z.heap.size ≤ b) (hg : g < Z.heap.size) : Sep y g := fun b hb => by
  rcases hb with ⟨e, -⟩ | ⟨e, -⟩
  · have := hk b (.inl (.inl e)); omega
  · have := hk b (.inl (.inr e)); omega
theorem RowAt.ch0 {α : Type} {P : α → Prop} {k : Nat} {enc : α → List Value} {g : Nat} {w w' : World} {a : Option Addr} {n c : Nat} {l : List α} (h : RowAt (fun _ => P) k enc w (.slice a n c) l) (hg : ∀ b, ab a = some b ∧ 0 < l.length → b ≠ g) (hc : Ch1 g w w') : RowAt (fun _ => P) k enc w' (.slice a n c) l := by
  rcases Nat.eq_zero_or_pos l.length with h0 | h0
  · obtain ⟨a', cap, hv, h1, h2, h3, -⟩ := h
    exact ⟨a', cap, hv, h1, h2, h3, fun hh => by omega⟩
  · exact RowAt.ch1 h (fun b e => hg b ⟨e, h0⟩) hc
theorem FeV.ok.sep {W W' : World} {y : FeV} {g : Nat} (h : y.ok W) (hs : Sep y g) (hc : Ch1 g W W') : y.ok W' :=
  ⟨h.nums, RowAt.ch0 h.st (fun b e => hs b (.inl e)) hc, RowAt.ch0 h.bd (fun b e => hs b (.inr e)) hc⟩
end Go.Proofs.YtpihogkhfmijcaaGreat
