/- NetTrue's mathematics; two rows of messages beside a net. -/
import Derived.Test.YtbmebmkpjbgdoaaCount
namespace Go.Proofs.Ytbmebmkpjbgdoaa
open Go.RowKit
/-- what came and what is on its way was sent -/
def Sent (d : Nt) (s c : List Msg) : Prop := ∀ m, like c m + like d.bag m ≤ like s m
theorem like_append (a b : List Msg) (m : Msg) : like (a ++ b) m = like a m + like b m := List.countP_append
theorem like_erase (l : List Msg) (i : Nat) (x m : Msg) (h : l[i]? = some x) : like l m = like (l.eraseIdx i) m + like [x] m := by
  obtain ⟨hi, he⟩ := List.getElem?_eq_some_iff.1 h
  have e : l = l.take i ++ (x :: l.drop (i + 1)) := by rw [← he, ← List.drop_eq_getElem_cons hi, List.take_append_drop]
  rw [List.eraseIdx_eq_take_drop_succ, like_append]
  have e2 : like l m = like (l.take i ++ (x :: l.drop (i + 1))) m := by rw [← e]
  rw [e2, like_append]
  have e3 : like (x :: l.drop (i + 1)) m = like [x] m + like (l.drop (i + 1)) m := like_append [x] (l.drop (i + 1)) m
  omega
theorem same_self (m : Msg) : m.same m = true := by simp [Msg.same]
theorem Sent.new (n : Nat) : Sent (Nt.new n) [] [] := fun m => by simp [like, Nt.new]
theorem send_err {d : Nt} {a b : Int} {l : Bs} (h : (d.send a b l).1 ≠ 0) : (d.send a b l).2 = d := by
  unfold Nt.send at h ⊢
  split
  · rfl
  · split
    · rfl
    · split
      · rfl
      · split
        · rfl
        · rename_i h1 h2 h3 h4
          rw [if_neg h1, if_neg h2, if_neg h3, if_neg h4] at h
          exact absurd rfl h
theorem send_ok {d : Nt} {a b : Int} {l : Bs} (h : (d.send a b l).1 = 0) : (d.send a b l).2 = { d with bag := d.bag ++ [⟨a, b, l⟩] } ∧ d.bag.length < 64 := by
  unfold Nt.send at h ⊢
  split at h
  · simp at h
  · rename_i h1
    rw [if_neg h1]
    split at h
    · simp at h
    · rename_i h2
      rw [if_neg h2]
      split at h
      · simp at h
      · rename_i h3
        rw [if_neg h3]
        split at h
        · simp at h
        · rename_i h4
          rw [if_neg h4]
          exact ⟨rfl, by omega⟩
theorem deliver_err {d : Nt} {i : Int} (h : (d.deliver i).2.1 ≠ 0) : (d.deliver i).2.2 = d := by
  unfold Nt.deliver at h ⊢
  split
  · rfl
  · split
    · rfl
    · rename_i h1 h2
      rw [if_neg h1, if_neg h2] at h
      exact absurd rfl h
theorem deliver_ok {d : Nt} {i : Int} (h : (d.deliver i).2.1 = 0) : d.bag[i.toNat]? = some (d.deliver i).1 ∧ (d.deliver i).2.2 = { d with bag := d.bag.eraseIdx i.toNat } := by
  unfold Nt.deliver at h ⊢
  split at h
  · simp at h
  · rename_i h1
    rw [if_neg h1]
    split at h
    · simp at h
    · rename_i h2
      rw [if_neg h2]
      exact ⟨Nt.msg_get (by simpa using h1), rfl⟩
theorem drop_err {d : Nt} {i : Int} (h : (d.drop i).1 ≠ 0) : (d.drop i).2 = d := by
  unfold Nt.drop at h ⊢
  split
  · rename_i h1; rw [if_pos h1] at h; exact absurd rfl h
  · rfl
theorem double_err {d : Nt} {i : Int} (h : (d.double i).1 ≠ 0) : (d.double i).2 = d := by
  unfold Nt.double at h ⊢
  split
  · rfl
  · split
    · rfl
    · rename_i h1 h2
      rw [if_neg h1, if_neg h2] at h
      exact absurd rfl h
theorem double_ok {d : Nt} {i : Int} (h : (d.double i).1 = 0) : (d.double i).2 = { d with bag := d.bag ++ [(d.at i).1] } := by
  unfold Nt.double at h ⊢
  split at h
  · simp at h
  · rename_i h1
    rw [if_neg h1]
    split at h
    · simp at h
    · rename_i h2
      rw [if_neg h2]
      unfold Nt.at
      rw [if_pos (by simpa using h1)]
theorem turn_bag (d : Nt) (a b : Int) (c : Bool) : (d.turn a b c).2.bag = d.bag := by unfold Nt.turn; split <;> rfl
theorem Sent.sent {d : Nt} {s c : List Msg} (h : Sent d s c) (x : Msg) : Sent { d with bag := d.bag ++ [x] } (s ++ [x]) c := fun m => by
  have := h m
  show like c m + like (d.bag ++ [x]) m ≤ like (s ++ [x]) m
  rw [like_append, like_append]; omega
theorem Sent.came {d : Nt} {s c : List Msg} (h : Sent d s c) {i : Nat} {x : Msg} (hi : d.bag[i]? = some x) : Sent { d with bag := d.bag.eraseIdx i } s (c ++ [x]) := fun m => by
  have h1 := h m
  have h2 := like_erase d.bag i x m hi
  show like (c ++ [x]) m + like (d.bag.eraseIdx i) m ≤ like s m
  rw [like_append]; omega
theorem Sent.out {d : Nt} {s c : List Msg} (h : Sent d s c) (i : Int) : Sent (d.drop i).2 s c := fun m => by
  have h1 := h m
  unfold Nt.drop
  split
  · rename_i hi
    have h2 := like_erase d.bag i.toNat _ m (Nt.msg_get hi)
    show like c m + like (d.bag.eraseIdx i.toNat) m ≤ like s m
    omega
  · exact h1
theorem Sent.turn {d : Nt} {s c : List Msg} (h : Sent d s c) (a b : Int) (t : Bool) : Sent (d.turn a b t).2 s c := fun m => by rw [turn_bag]; exact h m
/-- two growing rows of messages -/
structure Rows2 (w wi : World) (J K : Bks) (s c : Value) (vs us : List MV) : Prop where
  rs : OwnMs wi s vs
  rc : OwnMs wi c us
  kj : ∀ k, K k → J k
  sJ : ∀ k, s.ownBlock = some k → J k ∧ ¬ K k ∧ w.heap.size ≤ k
  cJ : ∀ k, c.ownBlock = some k → J k ∧ ¬ K k ∧ w.heap.size ≤ k
  ap : ∀ k, s.ownBlock = some k → c.ownBlock ≠ some k
  bs : ∀ x ∈ vs, BytesIn K wi x.2 x.1.b
  bc : ∀ x ∈ us, BytesIn K wi x.2 x.1.b
  low : ∀ k, k < w.heap.size → K k
theorem OwnMs.keep {w W : World} {v : Value} {vs : List MV} {I : Bks} (h : OwnMs w v vs) (hk : Keep I w W) (hI : ∀ k, v.ownBlock = some k → I k) : OwnMs W v vs := by
  refine ⟨h.1, ?_⟩
  rcases h.2 with h2 | ⟨g, cap, cur, rfl, hbg, hg, r⟩
  · exact .inl h2
  · exact .inr ⟨g, cap, cur, rfl, hbg, by rw [hk.2 g (hI g rfl) (lt_of_block hg)]; exact hg, r⟩
theorem Rows2.swap {w wi : World} {J K : Bks} {s c : Value} {vs us : List MV} (h : Rows2 w wi J K s c vs us) : Rows2 w wi J K c s us vs :=
  ⟨h.rc, h.rs, h.kj, h.cJ, h.sJ, fun k hk e => h.ap k e hk, h.bc, h.bs, h.low⟩
theorem Rows2.keep {w wi w' : World} {J K : Bks} {s c : Value} {vs us : List MV} (h : Rows2 w wi J K s c vs us) (hk : Keep J wi w') : Rows2 w w' J K s c vs us :=
  { h with rs := h.rs.keep hk fun k hk => (h.sJ k hk).1, rc := h.rc.keep hk fun k hk => (h.cJ k hk).1, bs := fun x hx => (h.bs x hx).keep hk h.kj, bc := fun x hx => (h.bc x hx).keep hk h.kj }
/-- more blocks, of bytes and others -/
theorem Rows2.wide {w wi : World} {J K : Bks} {s c : Value} {vs us : List MV} (h : Rows2 w wi J K s c vs us) {J' K' : Bks} (hJ : ∀ k, J k → J' k) (hK : ∀ k, K k → K' k) (hKJ : ∀ k, K' k → J' k) (hd : ∀ k, K' k → ¬ K k → s.ownBlock ≠ some k ∧ c.ownBlock ≠ some k) : Rows2 w wi J' K' s c vs us :=
  { h with
    kj := hKJ
    sJ := fun k hk => ⟨hJ k (h.sJ k hk).1, fun hk' => (hd k hk' (h.sJ k hk).2.1).1 hk, (h.sJ k hk).2.2⟩
    cJ := fun k hk => ⟨hJ k (h.cJ k hk).1, fun hk' => (hd k hk' (h.cJ k hk).2.1).2 hk, (h.cJ k hk).2.2⟩
    bs := fun x hx => (h.bs x hx).wide fun k _ hk => hK k hk
    bc := fun x hx => (h.bc x hx).wide fun k _ hk => hK k hk
    low := fun k hk => hK k (h.low k hk) }
/-- one message more in the first row -/
theorem Rows2.push {w wi wa w2 : World} {J K : Bks} {s c s2 : Value} {vs us : List MV} {p : Nat} {d : Nt} {x : MV} (h : Rows2 w wi J K s c vs us) (h1 : One w J wi p d) (hx : BytesIn K wi x.2 x.1.b) (hA : Below wi.heap.size wi wa) (ho : OwnMs w2 s2 (vs ++ [x])) (hg : wa.grownBy w2 s.ownBlock) (hp : Placed wa s s2) :
    ∃ J', (∀ k, J k → J' k) ∧ One w J' w2 p d ∧ Rows2 w w2 J' K s2 c (vs ++ [x]) us ∧ Keep (fun k => J k ∧ s.ownBlock ≠ some k) wi w2 := by
  have hc : Chg (fun k => s.ownBlock = some k) wi w2 := (Chg.of_below (S := fun k => s.ownBlock = some k) hA (Nat.le_refl _)).grown hg fun k hk => .inl hk
  have hlt2 := ho.lt
  have hJl := h1.lt
  have hs2 : ∀ k, s2.ownBlock = some k → s.ownBlock = some k ∨ wi.heap.size ≤ k := fun k hk => by
    rcases hp with e | e
    · exact .inl (e.symm.trans hk)
    · exact .inr (Nat.le_trans hA.size (e k hk))
  have hb := h1.below.size
  refine ⟨fun k => J k ∨ (s2.ownBlock = some k ∧ wi.heap.size ≤ k), fun k hk => .inl hk, h1.write hc (fun k hk => ⟨(h.sJ k hk).1, (h.sJ k hk).2.2⟩) _ fun k hk => ⟨hk.2, hlt2 k hk.1⟩, ?_, hc.keep fun k hk hj => hj.2 hk⟩
  exact {
    rs := ho
    rc := h.rc.chg hc fun k hk hs => h.ap k hs hk
    kj := fun k hk => .inl (h.kj k hk)
    sJ := fun k hk => by
      rcases hs2 k hk with h' | h'
      · exact ⟨.inl (h.sJ k h').1, (h.sJ k h').2⟩
      · exact ⟨.inr ⟨hk, h'⟩, fun hK => by have := hJl k (h.kj k hK); omega, by omega⟩
    cJ := fun k hk => ⟨.inl (h.cJ k hk).1, (h.cJ k hk).2⟩
    ap := fun k hk e => by
      rcases hs2 k hk with h' | h'
      · exact h.ap k h' e
      · have := hJl k (h.cJ k e).1; omega
    bs := fun y hy => by
      rcases List.mem_append.1 hy with hy | hy
      · exact (h.bs y hy).chg hc fun k hk hK => (h.sJ k hk).2.1 hK
      · simp at hy
        subst hy
        exact hx.chg hc fun k hk hK => (h.sJ k hk).2.1 hK
    bc := fun y hy => (h.bc y hy).chg hc fun k hk hK => (h.sJ k hk).2.1 hK
    low := h.low }
end Go.Proofs.Ytbmebmkpjbgdoaa
