/- What lasts: the disk that is behind by some changes, in plain mathematics. -/
import Derived.Test.YticbfnflillokaaActTwo
namespace Go.Proofs.Yticbfnflillokaa
open Go.RowKit
/-- a is what d was behind the first K of its changes -/
structure Follow (K : Nat) (d a : Dk) : Prop where
  down : a.down = d.down
  cap : a.cap = d.cap
  seen : a.seen = doAll (d.waits.take K) d.synced
theorem refuse_same {a d : Dk} (hd : a.down = d.down) (ns : List Bs) : refuse a ns = refuse d ns := by unfold refuse; rw [hd]
/-- acts of changes do alike to disks that are seen alike -/
theorem act_same {a d : Dk} (hs : a.seen = d.seen) (hc : a.cap = d.cap) (hd : a.down = d.down) (x : AV) (hx : x.o ≤ 3) : (a.act x).seen = (d.act x).seen ∧ (a.act x).cap = (d.act x).cap ∧ (a.act x).down = (d.act x).down := by
  have L := lack_same hs hd
  unfold Dk.act
  by_cases e0 : x.o = 0
  · simp only [e0, if_true]
    unfold Dk.append
    rw [refuse_same hd, hc, hs]
    split
    · exact ⟨hs, hc, hd⟩
    · split
      · exact ⟨hs, hc, hd⟩
      · exact ⟨by unfold Dk.add; rw [hs], hc, hd⟩
  by_cases e1 : x.o = 1
  · simp only [e1, if_true]
    rw [if_neg (by decide), if_neg (by decide)]
    unfold Dk.putF
    rw [refuse_same hd, hc, hs]
    split
    · exact ⟨hs, hc, hd⟩
    · split
      · exact ⟨hs, hc, hd⟩
      · exact ⟨by unfold Dk.add; rw [hs], hc, hd⟩
  by_cases e2 : x.o = 2
  · simp only [e2, if_true]
    rw [if_neg (by decide), if_neg (by decide), if_neg (by decide), if_neg (by decide)]
    unfold Dk.rename
    rw [L]
    split
    · exact ⟨hs, hc, hd⟩
    · split
      · exact ⟨hs, hc, hd⟩
      · exact ⟨by unfold Dk.add; rw [hs], hc, hd⟩
  by_cases e3 : x.o = 3
  · simp only [e3, if_true]
    rw [if_neg (by decide), if_neg (by decide), if_neg (by decide), if_neg (by decide), if_neg (by decide), if_neg (by decide)]
    unfold Dk.remove
    rw [L]
    split
    · exact ⟨hs, hc, hd⟩
    · exact ⟨by unfold Dk.add; rw [hs], hc, hd⟩
  rw [if_neg e0, if_neg e0, if_neg e1, if_neg e1, if_neg e2, if_neg e2, if_neg e3, if_neg e3, if_neg (by omega), if_neg (by omega), if_neg (by omega), if_neg (by omega), if_neg (by omega), if_neg (by omega), if_neg (by omega), if_neg (by omega), if_neg (by omega), if_neg (by omega)]
  exact ⟨hs, hc, hd⟩
/-- an act of changes changes nothing, or adds one -/
theorem act_adds (d : Dk) (x : AV) (hx : x.o ≤ 3) : d.act x = d ∨ ∃ c, d.act x = d.add c := by
  unfold Dk.act
  split
  · unfold Dk.append; split; exact .inl rfl; split; exact .inl rfl; exact .inr ⟨_, rfl⟩
  split
  · unfold Dk.putF; split; exact .inl rfl; split; exact .inl rfl; exact .inr ⟨_, rfl⟩
  split
  · unfold Dk.rename; split; exact .inl rfl; split; exact .inl rfl; exact .inr ⟨_, rfl⟩
  split
  · unfold Dk.remove; split; exact .inl rfl; exact .inr ⟨_, rfl⟩
  rw [if_neg (by omega), if_neg (by omega), if_neg (by omega), if_neg (by omega), if_neg (by omega)]
  exact .inl rfl
theorem act_keeps (d : Dk) (x : AV) (hx : x.o ≤ 3) : (d.act x).synced = d.synced ∧ (d.act x).down = d.down ∧ (d.act x).cap = d.cap := by
  rcases act_adds d x hx with h | ⟨c, h⟩ <;> rw [h] <;> exact ⟨rfl, rfl, rfl⟩
/-- while d has no more changes than K, both do the act -/
theorem Follow.act {K : Nat} {d a : Dk} (h : Follow K d a) (hok : d.ok) {x : AV} (hok' : (d.act x).ok) (hx : x.o ≤ 3) (hK : (d.act x).waits.length ≤ K) : Follow K (d.act x) (a.act x) := by
  have hw : d.waits.length ≤ (d.act x).waits.length := by
    rcases act_adds d x hx with e | ⟨c, e⟩ <;> rw [e]
    · exact Nat.le_refl _
    · simp [Dk.add]
  have hs : a.seen = d.seen := by rw [h.seen, List.take_of_length_le (by omega), hok.sees]
  obtain ⟨e1, e2, e3⟩ := act_same hs h.cap h.down x hx
  exact ⟨e3, e2, by rw [e1, List.take_of_length_le hK, ← hok'.sees]⟩
/-- behind it a stays -/
theorem Follow.stay {K : Nat} {d a : Dk} (h : Follow K d a) {x : AV} (hx : x.o ≤ 3) (hK : K = 0 ∨ K < (d.act x).waits.length) : Follow K (d.act x) a := by
  obtain ⟨k1, k2, k3⟩ := act_keeps d x hx
  refine ⟨h.down.trans k2.symm, h.cap.trans k3.symm, ?_⟩
  rw [k1, h.seen]
  rcases act_adds d x hx with e | ⟨c, e⟩
  · rw [e]
  · rw [e] at hK ⊢
    simp only [Dk.add, List.length_append, List.length_cons, List.length_nil] at hK ⊢
    rw [List.take_append_of_le_length (by omega)]
theorem take_keeps (d : Dk) (keep : Int) : d.waits.take (d.keeps keep) = d.waits.take (max keep 0).toNat := by
  unfold Dk.keeps
  rcases Nat.lt_or_ge d.waits.length (max keep 0).toNat with h | h
  · rw [List.take_of_length_le (by omega), List.take_of_length_le (by omega)]
  · congr 1; omega
theorem tear_none (c : Ch) {k : Int} (hk : k ≤ 0) (F : Fs) : c.tear k F = F := by
  cases c with
  | app n t => simp only [Ch.tear]; rw [if_neg (by omega)]
  | _ => rfl
/-- what a crash leaves that tears nothing -/
theorem left_whole {d a : Dk} {keep torn : Int} (h : Follow (max keep 0).toNat d a) (ht : torn ≤ 0) : d.left keep torn = a.seen := by
  rw [h.seen]
  unfold Dk.left
  rw [take_keeps]
  split
  · exact tear_none _ ht _
  · rfl
/-- .. and one that tears the next: for each name what was there, or a beginning of what comes -/
theorem left_torn {d a b : Dk} {keep torn : Int} (h : Follow (max keep 0).toNat d a) (hb : (max keep 0).toNat < d.waits.length → Follow ((max keep 0).toNat + 1) d b) (k : Bs) (β : Bs) (hk : (d.left keep torn).get k = some β) :
    a.seen.get k = some β ∨ ((max keep 0).toNat < d.waits.length ∧ ∃ γ, b.seen.get k = some γ ∧ β.length ≤ γ.length ∧ γ.take β.length = β ∧ ((a.seen.get k).getD []).length ≤ β.length ∧ 0 < β.length ∧ a.seen.get k ≠ some β) := by
  by_cases he : a.seen.get k = some β
  · exact .inl he
  right
  unfold Dk.left at hk
  rw [take_keeps, ← h.seen] at hk
  have hkk : ∀ c, d.waits[d.keeps keep]? = some c → (max keep 0).toNat < d.waits.length ∧ d.waits[(max keep 0).toNat]? = some c := by
    intro c hc
    obtain ⟨hlt, _⟩ := List.getElem?_eq_some_iff.1 hc
    have e : d.keeps keep = (max keep 0).toNat := by unfold Dk.keeps at hlt ⊢; omega
    rw [e] at hc hlt
    exact ⟨hlt, hc⟩
  split at hk
  · rename_i c hc
    obtain ⟨hlt, hc'⟩ := hkk c hc
    have hB := hb hlt
    have hbs : b.seen = c.do a.seen := by
      obtain ⟨hl, hg⟩ := List.getElem?_eq_some_iff.1 hc'
      rw [hB.seen, List.take_succ_eq_append_getElem hl, hg, doAll_snoc, ← h.seen]
    cases c with
    | app n t =>
      simp only [Ch.tear] at hk
      split at hk
      · rename_i hpos
        rw [Fs.get_put] at hk
        by_cases e : k = n
        · subst e
          rw [if_pos rfl] at hk
          injection hk with hk
          refine ⟨hlt, ((a.seen.get k).getD []) ++ t, by rw [hbs]; simp [Ch.do, Fs.get_put_same], ?_, ?_, ?_, ?_, he⟩
          · rw [← hk]; simp; omega
          · rw [← hk, List.length_append, List.take_length_add_append, List.length_take]
            congr 1
            rw [List.take_eq_take_iff]; omega
          · rw [← hk]; simp
          · rw [← hk]; simp; omega
        · rw [if_neg e] at hk; exact absurd hk he
      · exact absurd hk he
    | put n t => exact absurd hk he
    | ren n m => exact absurd hk he
    | rem n => exact absurd hk he
  · exact absurd hk he
theorem Follow.init {K : Nat} {d : Dk} (hok : d.ok) (hw : d.waits = []) : Follow K d d := ⟨rfl, rfl, by have := hok.sees; rw [hw] at this ⊢; simpa using this⟩
/-- started behind a crash -/
theorem crash_start {d : Dk} (h : d.down = false) (keep torn : Int) : (d.crash keep torn).1 = 0 ∧ (d.crash keep torn).2.start.1 = 0 ∧ (d.crash keep torn).2.start.2.down = false ∧ (d.crash keep torn).2.start.2.waits = [] ∧ (d.crash keep torn).2.start.2.seen = d.left keep torn ∧ (d.crash keep torn).2.start.2.cap = d.cap := by
  have e : d.crash keep torn = (0, { d with synced := d.left keep torn, seen := d.left keep torn, waits := [], down := true }) := by unfold Dk.crash; rw [h]; rfl
  rw [e]
  exact ⟨rfl, rfl, rfl, rfl, rfl, rfl⟩
theorem sync_up {d : Dk} (h : d.down = false) : d.sync.2.down = false ∧ d.sync.2.waits = [] ∧ d.sync.2.cap = d.cap := by
  unfold Dk.sync
  rw [h]
  exact ⟨rfl, rfl, rfl⟩
theorem start_cap (d : Dk) : d.start.2.cap = d.cap := by unfold Dk.start; split <;> rfl
theorem DiskAt.told_name {w : World} {O I : Bks} {p N : Nat} {d : Dk} (h : DiskAt w O I p N d) : ∀ k ∈ d.told, isName k = true := by
  obtain ⟨n1, n2, m1, m2, wv, vs, S1, S2, hp⟩ := h.raw
  obtain ⟨M, _, _, _, _, _, h1, _⟩ := hp.two
  intro k hk
  unfold Dk.told at hk
  split at hk
  · cases hk
  · obtain ⟨l, hl⟩ := Option.isSome_iff_exists.1 ((Fs.mem_names _ k).1 hk)
    exact (h1 k l hl).1
theorem DiskAt.waits_le {w : World} {O I : Bks} {p N : Nat} {d : Dk} (h : DiskAt w O I p N d) : d.waits.length ≤ N := by
  obtain ⟨n1, n2, _, _, h, _⟩ := h; omega
theorem Dk.start_up' (d : Dk) : d.start.2.down = false := by
  unfold Dk.start
  split
  · rfl
  · rename_i h; simpa using h
end Go.Proofs.Yticbfnflillokaa
