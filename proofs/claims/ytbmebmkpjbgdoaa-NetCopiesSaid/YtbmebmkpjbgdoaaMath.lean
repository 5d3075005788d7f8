/- Nets as values: what each call makes of them. -/
namespace Go.Proofs.Ytbmebmkpjbgdoaa
abbrev Bs := List UInt8
structure Msg where
  fr : Int
  to : Int
  b : Bs
/-- a net of n nodes -/
structure Nt where
  n : Nat
  bag : List Msg
  cuts : List Bool
def I64 (n : Int) : Prop := -9223372036854775808 ≤ n ∧ n ≤ 9223372036854775807
structure Msg.ok (m : Msg) : Prop where
  fr : 1 ≤ m.fr ∧ m.fr ≤ 15
  to : 1 ≤ m.to ∧ m.to ≤ 15
  len : m.b.length ≤ 16384
structure Nt.ok (d : Nt) : Prop where
  pos : 1 ≤ d.n
  most : d.n ≤ 15
  len : d.bag.length ≤ 64
  cuts : d.cuts.length = 225
  msgs : ∀ m ∈ d.bag, m.ok
def Nt.new (n : Nat) : Nt := ⟨n, [], List.replicate 225 false⟩
def Nt.links (d : Nt) (a b : Int) : Bool := a != b && decide (1 ≤ min a b) && decide (max a b ≤ d.n)
def place (a b : Int) : Nat := ((min a b - 1) * 15 + (max a b - 1)).toNat
def Nt.isOpen (d : Nt) (a b : Int) : Bool := d.links a b && !(d.cuts.getD (place a b) false)
def Nt.turn (d : Nt) (a b : Int) (c : Bool) : Int × Nt := if d.links a b = true then (0, { d with cuts := d.cuts.set (place a b) c }) else (1, d)
def Nt.send (d : Nt) (a b : Int) (l : Bs) : Int × Nt :=
  if d.links a b = false then (1, d) else if 16384 < l.length then (7, d) else if d.isOpen a b = false then (6, d) else if 64 ≤ d.bag.length then (3, d) else (0, { d with bag := d.bag ++ [⟨a, b, l⟩] })
def Nt.has (d : Nt) (i : Int) : Bool := decide (0 ≤ i) && decide (i < d.bag.length)
def noMsg : Msg := ⟨0, 0, []⟩
def Nt.msg (d : Nt) (i : Int) : Msg := d.bag.getD i.toNat noMsg
def Nt.at (d : Nt) (i : Int) : Msg × Int := if d.has i = true then (d.msg i, 0) else (noMsg, 4)
def Nt.out (d : Nt) (i : Int) : Nt := { d with bag := d.bag.eraseIdx i.toNat }
def Nt.deliver (d : Nt) (i : Int) : Msg × Int × Nt :=
  if d.has i = false then (noMsg, 4, d) else if d.isOpen (d.msg i).fr (d.msg i).to = false then (noMsg, 6, d) else (d.msg i, 0, d.out i)
def Nt.drop (d : Nt) (i : Int) : Int × Nt := if d.has i = true then (0, d.out i) else (4, d)
def Nt.double (d : Nt) (i : Int) : Int × Nt := if d.has i = false then (4, d) else if 64 ≤ d.bag.length then (3, d) else (0, { d with bag := d.bag ++ [d.msg i] })
def Nt.goes (d : Nt) (to : Int) (m : Msg) : Bool := m.to == to && d.isOpen m.fr m.to
/-- the first, from k on -/
def Nt.findFrom (d : Nt) (to : Int) : List Msg → Nat → Option Nat
  | [], _ => none
  | m :: r, k => if d.goes to m = true then some k else d.findFrom to r (k + 1)
def Nt.find (d : Nt) (to from_ : Int) : Int × Bool :=
  match d.findFrom to (d.bag.drop from_.toNat) from_.toNat with
  | some k => (k, true)
  | none => (0, false)
theorem links_iff (d : Nt) (a b : Int) : d.links a b = true ↔ a ≠ b ∧ 1 ≤ min a b ∧ max a b ≤ d.n := by
  unfold Nt.links; simp [and_assoc]
theorem place_lt {d : Nt} (h : d.n ≤ 15) {a b : Int} (hl : d.links a b = true) : place a b < 225 := by
  obtain ⟨_, h1, h2⟩ := (links_iff d a b).1 hl
  unfold place; omega
theorem Nt.ok.new {n : Nat} (h : 1 ≤ n ∧ n ≤ 15) : (Nt.new n).ok := ⟨h.1, h.2, by simp [Nt.new], List.length_replicate, fun m hm => by cases hm⟩
theorem Nt.ok.turn {d : Nt} (h : d.ok) (a b : Int) (c : Bool) : (d.turn a b c).2.ok := by
  unfold Nt.turn
  split
  · exact ⟨h.pos, h.most, h.len, by simp [h.cuts], h.msgs⟩
  · exact h
theorem Nt.ok.send {d : Nt} (h : d.ok) (a b : Int) (l : Bs) : (d.send a b l).2.ok := by
  unfold Nt.send
  split
  · exact h
  · rename_i hl
    split
    · exact h
    · rename_i h1
      split
      · exact h
      · split
        · exact h
        · rename_i h2
          refine ⟨h.pos, h.most, by simp; omega, h.cuts, fun m hm => ?_⟩
          rcases List.mem_append.1 hm with hm | hm
          · exact h.msgs m hm
          · simp at hm
            subst hm
            obtain ⟨_, k1, k2⟩ := (links_iff d a b).1 (by simpa using hl)
            have := h.most
            exact ⟨by show 1 ≤ a ∧ a ≤ 15; omega, by show 1 ≤ b ∧ b ≤ 15; omega, by show l.length ≤ 16384; omega⟩
theorem Nt.ok.out {d : Nt} (h : d.ok) (i : Int) : (d.out i).ok := by
  refine ⟨h.pos, h.most, ?_, h.cuts, fun m hm => h.msgs m (List.mem_of_mem_eraseIdx hm)⟩
  have := h.len
  show (d.bag.eraseIdx _).length ≤ 64
  rw [List.length_eraseIdx]
  split <;> omega
theorem Nt.ok.deliver {d : Nt} (h : d.ok) (i : Int) : (d.deliver i).2.2.ok := by
  unfold Nt.deliver
  split
  · exact h
  · split
    · exact h
    · exact h.out i
theorem Nt.ok.drop {d : Nt} (h : d.ok) (i : Int) : (d.drop i).2.ok := by
  unfold Nt.drop
  split
  · exact h.out i
  · exact h
theorem has_iff (d : Nt) (i : Int) : d.has i = true ↔ 0 ≤ i ∧ i < d.bag.length := by unfold Nt.has; simp
theorem Nt.msg_mem {d : Nt} {i : Int} (h : d.has i = true) : d.msg i ∈ d.bag := by
  obtain ⟨h1, h2⟩ := (has_iff d i).1 h
  unfold Nt.msg
  rw [List.getD_eq_getElem?_getD, List.getElem?_eq_getElem (by omega)]
  exact List.getElem_mem _
theorem Nt.msg_get {d : Nt} {i : Int} (h : d.has i = true) : d.bag[i.toNat]? = some (d.msg i) := by
  obtain ⟨h1, h2⟩ := (has_iff d i).1 h
  unfold Nt.msg
  rw [List.getD_eq_getElem?_getD, List.getElem?_eq_getElem (by omega)]; rfl
theorem Nt.ok.double {d : Nt} (h : d.ok) (i : Int) : (d.double i).2.ok := by
  unfold Nt.double
  split
  · exact h
  · rename_i hi
    split
    · exact h
    · refine ⟨h.pos, h.most, by simp; omega, h.cuts, fun m hm => ?_⟩
      rcases List.mem_append.1 hm with hm | hm
      · exact h.msgs m hm
      · simp at hm
        subst hm
        exact h.msgs _ (d.msg_mem (by simpa using hi))
end Go.Proofs.Ytbmebmkpjbgdoaa
