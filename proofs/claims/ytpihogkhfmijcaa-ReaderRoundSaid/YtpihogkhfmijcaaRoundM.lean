/- The mathematics of the round: how far the place that has the entry is ahead, and how many ticks that takes. -/
import Derived.Test.YtpihogkhfmijcaaLawM
namespace Go.Proofs.Ytpihogkhfmijcaa
open Go.RowKit Go.Maps Go.Shelf
/-- the place that has it stands d places ahead of the one that is asked -/
def Ahead (m : FeM) (p : PL) (d : Nat) : Prop := d < m.set.length ∧ m.set.getD ((m.at'.toNat + d) % m.set.length) default = p
theorem Ahead.cur {m : FeM} {p : PL} (h : m.In) (ha : Ahead m p 0) : m.cur = p := by
  have h1 := h.lo
  have h2 := h.hi
  have := ha.2
  rw [Nat.add_zero, Nat.mod_eq_of_lt (by omega)] at this
  exact this
/-- some place stands some places ahead -/
theorem Ahead.any {m : FeM} (h : m.In) {k : Nat} (hk : k < m.set.length) : ∃ d, Ahead m (m.set.getD k default) d := by
  have h1 := h.lo
  have h2 := h.hi
  refine ⟨(k + m.set.length - m.at'.toNat) % m.set.length, Nat.mod_lt _ (by omega), ?_⟩
  congr 1
  rw [Nat.add_mod_mod, show m.at'.toNat + (k + m.set.length - m.at'.toNat) = k + m.set.length by omega, Nat.add_mod_right, Nat.mod_eq_of_lt hk]
theorem next_at {m : FeM} (h : m.In) : m.next.at'.toNat = (m.at'.toNat + 1) % m.set.length := by
  have h1 := h.lo
  have h2 := h.hi
  show ((m.at' + 1) % (m.set.length : Int)).toNat = _
  obtain ⟨k, hk⟩ := Int.eq_ofNat_of_zero_le h1
  rw [hk, show ((k : Int) + 1) = ((k + 1 : Nat) : Int) by push_cast; rfl, ← Int.natCast_emod, Int.toNat_natCast, Int.toNat_natCast]
/-- one place further -/
theorem Ahead.next {m : FeM} {p : PL} {d : Nat} (h : m.In) (ha : Ahead m p (d + 1)) : Ahead m.next p d := by
  refine ⟨Nat.lt_of_succ_lt ha.1, ?_⟩
  show m.set.getD ((m.next.at'.toNat + d) % m.set.length) default = p
  rw [next_at h, Nat.mod_add_mod, ← ha.2]
  congr 2
  omega
/-- from the place itself once round -/
theorem Ahead.again {m : FeM} {p : PL} (h : m.In) (ha : Ahead m p 0) : Ahead m.next p (m.set.length - 1) := by
  have h1 := h.lo
  have h2 := h.hi
  refine ⟨by show m.set.length - 1 < m.set.length; omega, ?_⟩
  show m.set.getD ((m.next.at'.toNat + (m.set.length - 1)) % m.set.length) default = p
  rw [next_at h, Nat.mod_add_mod, ← ha.2]
  congr 1
  rw [show m.at'.toNat + 1 + (m.set.length - 1) = m.at'.toNat + 0 + m.set.length by omega, Nat.add_mod_right]
/-- what asks the place whose turn it is -/
def FeM.rq (m : FeM) : RqM := ⟨m.cur, m.id, m.n, m.tag⟩
/-- the fetch that has not got its entry -/
structure Live (n : Int) (S : List PL) (now : Int) (m : FeM) : Prop where
  inv : FInv n m
  set : m.set = S
  done : m.done = 0
  since : m.since ≤ now
/-- how long it is till the place that has it, where it waits -/
def Waits (p : PL) (now : Int) (t : Nat) (m : FeM) : Prop := ∃ d : Nat, Ahead m.next p d ∧ (t : Int) + max 1 (m.since + 3 - now) + 3 * (d : Int) ≤ 3 * (m.set.length : Int)
/-- where one is asked -/
def Asked (p : PL) (t k : Nat) (m : FeM) : Prop := ∃ d : Nat, Ahead m p d ∧ k + d < m.set.length ∧ (t : Int) + 3 * (d : Int) ≤ 3 * (m.set.length : Int)
/-- within the tick number t, behind k answers -/
def Within (n : Int) (S : List PL) (p : PL) (body : List Int) (now : Int) (t k : Nat) (m : FeM) (qs : List RqM) : Prop :=
  ((m.done = 1 ∧ m.body = body) ∧ FInv n m ∧ m.set = S) ∨ (Live n S now m ∧ ((k = qs.length ∧ Waits p now t m) ∨ (k + 1 = qs.length ∧ qs[k]? = some m.rq ∧ Asked p t k m)))
theorem pass_rq (m : FeM) (now : Int) : (m.passM now).2 = [(m.passM now).1.rq] := rfl
theorem Live.tick {n : Int} {S : List PL} {now : Int} {m : FeM} (h : Live n S now m) (now' : Int) : ∃ m' qs, m.still (m.tickM now') = (m', qs) ∧ Live n S (max now now') m' ∧ (qs = [] ∨ qs = [m'.rq]) := by
  have hd0 : ¬ m.done = 1 := by rw [h.done]; decide
  unfold FeM.still
  rw [if_neg hd0]
  unfold FeM.tickM
  split
  · exact ⟨_, _, rfl, ⟨pass_inv h.inv _, h.set, h.done, show now' ≤ max now now' by omega⟩, .inr rfl⟩
  · exact ⟨_, _, rfl, ⟨h.inv, h.set, h.done, by have := h.since; omega⟩, .inl rfl⟩
/-- the first tick of the round -/
theorem Live.start {n : Int} {S : List PL} {now : Int} {m : FeM} {qs : List RqM} (h : Live n S now m) (hq : qs = [] ∨ qs = [m.rq]) {k : Nat} (hk : k < S.length) (body : List Int) : Within n S (S.getD k default) body now 0 0 m qs := by
  refine .inr ⟨h, ?_⟩
  have hs := h.since
  rcases hq with rfl | rfl
  · obtain ⟨d, hd⟩ := Ahead.any (m := m.next) h.inv.inn.next (k := k) (by show k < m.set.length; rw [h.set]; exact hk)
    have h1 : d < m.set.length := hd.1
    have h2 : m.next.set = S := h.set
    rw [h2] at hd
    exact .inl ⟨rfl, d, hd, by push_cast; omega⟩
  · obtain ⟨d, hd⟩ := Ahead.any (m := m) h.inv.inn (k := k) (by rw [h.set]; exact hk)
    have h1 : d < m.set.length := hd.1
    rw [h.set] at hd
    exact .inr ⟨rfl, rfl, d, hd, by omega, by push_cast; omega⟩
/-- the one that is asked has it not, and does not answer -/
theorem Asked.waits {n : Int} {S : List PL} {p : PL} {now : Int} {t k : Nat} {m : FeM} (h : Live n S now m) (ha : Asked p t k m) (hp : ¬ m.cur = p) : Waits p now t m := by
  obtain ⟨d, h1, h2, h3⟩ := ha
  have hs := h.since
  cases d with
  | zero => exact absurd (h1.cur h.inv.inn) hp
  | succ d =>
    refine ⟨d, h1.next h.inv.inn, ?_⟩
    push_cast at h3
    omega
/-- the one that is asked has it not, and says so -/
theorem Asked.pass {n : Int} {S : List PL} {p : PL} {now : Int} {t k : Nat} {m : FeM} (h : Live n S now m) (ha : Asked p t k m) (hp : ¬ m.cur = p) : Live n S now (m.passM now).1 ∧ Asked p t (k + 1) (m.passM now).1 := by
  obtain ⟨d, h1, h2, h3⟩ := ha
  cases d with
  | zero => exact absurd (h1.cur h.inv.inn) hp
  | succ d =>
    refine ⟨⟨pass_inv h.inv _, h.set, h.done, Int.le_refl _⟩, d, h1.next h.inv.inn, ?_, ?_⟩
    · show k + 1 + d < m.set.length
      omega
    · show (t : Int) + 3 * (d : Int) ≤ 3 * (m.set.length : Int)
      push_cast at h3
      omega
theorem cur_mem {m : FeM} (h : m.In) : m.cur ∈ m.set := by
  have h1 := h.lo
  have h2 := h.hi
  unfold FeM.cur
  rw [List.getD_eq_getElem?_getD, List.getElem?_eq_getElem (show m.at'.toNat < m.set.length by omega)]
  exact List.getElem_mem _
theorem take_ok {n : Int} {m : FeM} (h : FInv n m) (hd : m.done = 0) (now : Int) {r : RsV} (hf : r.frm = m.cur) (hr : m.fits r) (hc : r.code = 0) : m.still (m.takeM now r) = ({ m with done := 1, body := r.body }, []) := by
  unfold FeM.still
  rw [if_neg (by rw [hd]; decide)]
  unfold FeM.takeM FeM.foundM
  rw [if_pos hr, if_pos hc, if_pos (by rw [hf]; exact cur_mem h.inn)]
theorem take_none {m : FeM} (hd : m.done = 0) (now : Int) {r : RsV} (hf : r.frm = m.cur) (hr : m.fits r) (hc : r.code = 3) : m.still (m.takeM now r) = m.passM now := by
  unfold FeM.still
  rw [if_neg (by rw [hd]; decide)]
  unfold FeM.takeM
  rw [if_pos hr, if_neg (by rw [hc]; decide), if_pos (by rw [hc]; simp), if_pos hf.symm]
/-- the tick's end -/
theorem Within.tick {n : Int} {S : List PL} {p : PL} {body : List Int} {now : Int} {t k : Nat} {m : FeM} {qs : List RqM} (h : Within n S p body now t k m qs) (hx : m.done = 1 ∨ qs.length ≤ k) :
    Within n S p body (now + 1) (t + 1) 0 (m.still (m.tickM (now + 1))).1 (m.still (m.tickM (now + 1))).2 ∧ (m.still (m.tickM (now + 1))).2.length ≤ 1 := by
  unfold FeM.still
  rcases h with ⟨⟨h1, h2⟩, h3⟩ | ⟨hl, hw⟩
  · rw [if_pos h1]
    exact ⟨.inl ⟨⟨h1, h2⟩, h3⟩, Nat.zero_le _⟩
  · have hd0 : ¬ m.done = 1 := by rw [hl.done]; decide
    have hs := hl.since
    rw [if_neg hd0]
    obtain ⟨d, had, hle⟩ : Waits p now t m := by
      rcases hw with ⟨-, hw⟩ | ⟨h1, -⟩
      · exact hw
      · rcases hx with hx | hx
        · exact absurd hx hd0
        · omega
    unfold FeM.tickM
    split
    · refine ⟨.inr ⟨⟨pass_inv hl.inv _, hl.set, hl.done, Int.le_refl _⟩, .inr ⟨rfl, rfl, d, had, ?_, ?_⟩⟩, Nat.le_refl _⟩
      · rw [Nat.zero_add]
        exact had.1
      · show ((t + 1 : Nat) : Int) + 3 * (d : Int) ≤ 3 * (m.set.length : Int)
        push_cast
        omega
    · rename_i h3
      refine ⟨.inr ⟨⟨hl.inv, hl.set, hl.done, (show m.since ≤ now + 1 by omega)⟩, .inl ⟨rfl, d, had, ?_⟩⟩, Nat.zero_le _⟩
      push_cast
      omega
/-- while it is not done, ticks are left -/
theorem Within.more {n : Int} {S : List PL} {p : PL} {body : List Int} {now : Int} {t k : Nat} {m : FeM} {qs : List RqM} (h : Within n S p body now t k m qs) (hd : ¬ m.done = 1) : Live n S now m ∧ (t : Int) ≤ 3 * (S.length : Int) := by
  rcases h with ⟨⟨h1, -⟩, -⟩ | ⟨hl, hw⟩
  · exact absurd h1 hd
  · have hs := hl.set
    refine ⟨hl, ?_⟩
    rcases hw with ⟨-, d, -, hle⟩ | ⟨-, -, d, -, -, hle⟩ <;> rw [hs] at hle <;> omega
/-- one that is asked is left -/
theorem Within.asked {n : Int} {S : List PL} {p : PL} {body : List Int} {now : Int} {t k : Nat} {m : FeM} {qs : List RqM} (h : Within n S p body now t k m qs) (hd : ¬ m.done = 1) (hk : k < qs.length) : k + 1 = qs.length ∧ qs[k]? = some m.rq ∧ Asked p t k m := by
  rcases h with ⟨⟨h1, -⟩, -⟩ | ⟨-, ⟨h1, -⟩ | h2⟩
  · exact absurd h1 hd
  · omega
  · exact h2
/-- behind an answer that is taken: the entry, or not -/
def Took (n : Int) (S : List PL) (p : PL) (body : List Int) (now : Int) (t k : Nat) (qs : List RqM) (M : FeM × List RqM) : Prop :=
  Within n S p body now t (k + 1) M.1 (qs ++ M.2) ∧ (qs ++ M.2).length ≤ k + 1 + 1 ∧ (M.1.done = 1 → k + 1 = (qs ++ M.2).length) ∧ qs.length + M.2.length ≤ k + 2
theorem Took.ok {n : Int} {S : List PL} {p : PL} {body : List Int} {now : Int} {t k : Nat} {m : FeM} {qs : List RqM} (h : Live n S now m) (hk : k + 1 = qs.length) (hb : body.length ≤ 5000) : Took n S p body now t k qs ({ m with done := 1, body := body }, []) := by
  refine ⟨.inl ⟨⟨rfl, rfl⟩, ⟨⟨h.inv.inn.lo, h.inv.inn.hi, h.inv.inn.len⟩, h.inv.nn, h.inv.n1, hb⟩, h.set⟩, ?_, fun _ => ?_, ?_⟩
  · rw [List.append_nil]; omega
  · rw [List.append_nil]; exact hk
  · simp; omega
theorem Took.pass {n : Int} {S : List PL} {p : PL} {body : List Int} {now : Int} {t k : Nat} {m : FeM} {qs : List RqM} (h : Live n S now m) (ha : Asked p t k m) (hp : ¬ m.cur = p) (hk : k + 1 = qs.length) : Took n S p body now t k qs (m.passM now) := by
  obtain ⟨h1, h2⟩ := ha.pass h hp
  have hl : (qs ++ (m.passM now).2).length = k + 1 + 1 := by rw [pass_rq, List.length_append, ← hk]; rfl
  refine ⟨.inr ⟨h1, .inr ⟨hl.symm, ?_, h2⟩⟩, by omega, fun hd => ?_, by rw [pass_rq]; simp; omega⟩
  · rw [pass_rq, List.getElem?_append_right (by omega), show k + 1 - qs.length = 0 by omega]
    rfl
  · have h3 := h1.done
    omega
theorem Within.sets {n : Int} {S : List PL} {p : PL} {body : List Int} {now : Int} {t k : Nat} {m : FeM} {qs : List RqM} (h : Within n S p body now t k m qs) : FInv n m ∧ m.set = S := by
  rcases h with ⟨-, h⟩ | ⟨hl, -⟩
  · exact h
  · exact ⟨hl.inv, hl.set⟩
theorem Within.got {n : Int} {S : List PL} {p : PL} {body : List Int} {now : Int} {t k : Nat} {m : FeM} {qs : List RqM} (h : Within n S p body now t k m qs) (hd : m.done = 1) : m.body = body := by
  rcases h with ⟨⟨-, h⟩, -⟩ | ⟨hl, -⟩
  · exact h
  · have := hl.done; omega
end Go.Proofs.Ytpihogkhfmijcaa
