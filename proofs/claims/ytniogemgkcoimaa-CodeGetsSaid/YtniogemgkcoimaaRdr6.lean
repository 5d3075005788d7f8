/- Two readers, the program's and the document's, side by side. -/
import Derived.Test.YtniogemgkcoimaaRdr5
import Derived.Test.YtniogemgkcoimaaLawStays
namespace Go.Proofs.Ytniogemgkcoimaa
open Go.RowKit
theorem read0_nil {l : List UInt8} (m : Int) (h : l.length < 1) : readPart 0 m l = none := by
  obtain rfl : l = [] := List.eq_nil_of_length_eq_zero (by omega)
  rfl
theorem rWide0 (g : Nat) (s : RS) (m : Int) (w : World) (hr : RefAt w g s) (hl : s.l.length ≤ 1000000) :
    Calls Try.prog 20 #[.pointer (some ⟨g, 0, none⟩), .int .i64 1] w (RNum g w (s.get 0 m)) := by
  obtain ⟨l, bad⟩ := s
  by_cases h : l.length < 1 ∨ bad = true
  · rw [RS.get_fault ⟨l, bad⟩ 0 m (h.elim (fun h => .inr (read0_nil m h)) .inl)]
    exact rWide_no g 1 ⟨l, bad⟩ w hr hl h
  · obtain rfl : bad = false := Bool.eq_false_iff.2 fun e => h (.inr e)
    match l, h, hr, hl with
    | b :: t, h, hr, hl =>
      rw [RS.get_some (k := 0) (a := (b.toNat, [])) (t := t) rfl]
      have h2 := rWide_yes g 1 (b :: t) w hr hl (by simp) (by omega)
      simp only [List.take_succ_cons, List.take_zero, List.drop_succ_cons, List.drop_zero, ofLe, Nat.mul_zero, Nat.add_zero] at h2
      exact h2
    | [], h, _, _ => exact absurd (.inl (by simp)) h
theorem rWide1 (g : Nat) (s : RS) (m : Int) (w : World) (hr : RefAt w g s) (hl : s.l.length ≤ 1000000) :
    Calls Try.prog 20 #[.pointer (some ⟨g, 0, none⟩), .int .i64 4] w (RNum g w (s.get 1 m)) := by
  obtain ⟨l, bad⟩ := s
  by_cases h : l.length < 4 ∨ bad = true
  · rw [RS.get_fault ⟨l, bad⟩ 1 m (h.elim (fun h => .inr (by simp only [readPart]; rw [if_neg (by omega)])) .inl)]
    exact rWide_no g 4 ⟨l, bad⟩ w hr hl h
  · obtain rfl : bad = false := Bool.eq_false_iff.2 fun e => h (.inr e)
    have h4 : 4 ≤ l.length := Nat.le_of_not_lt fun hh => h (.inl hh)
    rw [RS.get_some (k := 1) (a := (ofLe (l.take 4), [])) (t := l.drop 4) (by simp only [readPart]; rw [if_pos h4])]
    exact rWide_yes g 4 l w hr hl h4 (by omega)
theorem rRawG (g : Nat) (s : RS) (m : Int) (w : World) (hr : RefAt w g s) (hl : s.l.length ≤ 1000000) :
    Calls Try.prog 23 #[.pointer (some ⟨g, 0, none⟩), .int .i64 m] w fun e w' => ∃ v, e = .returned v ∧ BytesAt w' v (s.get 4 m).1.2 ∧ RefAt w' g (s.get 4 m).2 ∧ Chg [g] w w' := by
  obtain ⟨l, bad⟩ := s
  by_cases h : m < 0 ∨ (l.length : Int) < m ∨ bad = true
  · rw [RS.get_fault ⟨l, bad⟩ 4 m (h.elim (fun h => .inr (by simp only [readPart]; rw [if_neg (by omega)])) (fun h => h.elim (fun h => .inr (by simp only [readPart]; rw [if_neg (by omega)])) .inl))]
    exact (rRaw_no g m ⟨l, bad⟩ w hr hl h).mono fun e w' ⟨he, h1, h2⟩ => ⟨_, he, BytesAt.nil _, h1, h2⟩
  · obtain rfl : bad = false := Bool.eq_false_iff.2 fun e => h (.inr (.inr e))
    have h1 : ¬ m < 0 := fun hh => h (.inl hh)
    have h2 : ¬ (l.length : Int) < m := fun hh => h (.inr (.inl hh))
    obtain ⟨n, rfl⟩ : ∃ n : Nat, m = (n : Int) := ⟨m.toNat, by omega⟩
    rw [RS.get_some (k := 4) (a := (0, l.take n)) (t := l.drop n) (by simp only [readPart]; rw [if_pos (by omega)]; simp)]
    exact rRaw_yes g n l w hr hl (by omega)
theorem new_reader_own (v : Value) (l : List UInt8) (w : World) (hp : BytesAt w v l) (hl : l.length ≤ 175921860444160) :
    Calls Try.prog 17 #[v] w fun e w' => ∃ g u, e = .returned (.pointer (some ⟨g, 0, none⟩)) ∧ RdIn w' g u false ∧ OwnBytes w.heap.size w' u l ∧ Below w.heap.size w w' ∧ w.heap.size ≤ g := by
  have HP := Lib.hid hp
  obtain ⟨a, c, rfl, _⟩ := hp.form
  clear hp
  go_enter Try.func17, Try.ntmps17
  go_wp2_with (go_at_call 43; refine (clone_any _ l _ HP.out hl).mono ?_; rintro e w1 ⟨v1, rfl, hown, hb⟩; have HO := Lib.hid (And.intro hown hb); obtain ⟨a1, c1, rfl⟩ := hown.form; clear hown hb)
  have HF : Hid (RdIn (w1.alloc (.cells #[.slice a1 l.length c1, .bool false] 54)) w1.heap.size (.slice a1 l.length c1) false ∧ OwnBytes w.heap.size (w1.alloc (.cells #[.slice a1 l.length c1, .bool false] 54)) (.slice a1 l.length c1) l ∧ Below w.heap.size w (w1.alloc (.cells #[.slice a1 l.length c1, .bool false] 54)) ∧ w.heap.size ≤ w1.heap.size) :=
    ⟨heap_alloc_new w1 _, HO.out.1.alloc _, HO.out.2.alloc HO.out.2.size _, HO.out.2.size⟩
  go_ret
  exact ⟨_, _, rfl, HF.out⟩
/-- the two readers stand so -/
structure Both (W w : World) (gp gh : Nat) (s s' : RS) : Prop where
  code : Rd w (some ⟨gp, 0, none⟩) s
  doc : RefAt w gh s'
  below : Below W.heap.size W w
  old : W.heap.size ≤ gp ∧ W.heap.size ≤ gh
  ne : gp ≠ gh
theorem Both.kept {W w w' : World} {gp gh : Nat} {s s' : RS} {B : Nat} (h : Both W w gp gh s s') (hb : Below B w w') (hB : w.heap.size ≤ B) : Both W w' gp gh s s' :=
  ⟨h.code.below hb hB, h.doc.below hb hB, h.below.trans (hb.mono (Nat.le_trans h.below.size hB)), h.old, h.ne⟩
theorem Both.read {W w w' : World} {gp gh : Nat} {s s' t : RS} (h : Both W w gp gh s s') (hr : Rd w' (some ⟨gp, 0, none⟩) t) (hc : Chg (at' (some ⟨gp, 0, none⟩)) w w') : Both W w' gp gh t s' :=
  ⟨hr, h.doc.chg hc (by rw [at_some]; simp; exact fun e => h.ne e.symm) h.code.nb, h.below.trans (hc.below h.below.size (by rw [at_some]; simpa using h.old.1)), h.old, h.ne⟩
theorem Both.told {W w w' : World} {gp gh : Nat} {s s' t : RS} (h : Both W w gp gh s s') (hr : RefAt w' gh t) (hc : Chg [gh] w w') : Both W w' gp gh s t :=
  ⟨h.code.chg hc (by rw [at_some]; simpa using h.ne) (fun k hk => by rw [List.mem_singleton.1 hk]; exact h.doc.nb), hr, h.below.trans (hc.below h.below.size (by simpa using h.old.2)), h.old, h.ne⟩
/-- ahead of the first part: what was handed in is still the call's -/
structure Ahead (W w : World) (N gp gh : Nat) (u1 u2 : Value) (l : List UInt8) : Prop where
  code : RdIn w gp u1 false
  own1 : OwnBytes N w u1 l
  doc : RefIn w gh u2 false
  own2 : OwnBytes N w u2 l
  below : Below W.heap.size W w
  old : N ≤ gp ∧ N ≤ gh
  ne : gp ≠ gh
  big : W.heap.size ≤ N
theorem Ahead.both {W w w' : World} {N gp gh : Nat} {u1 u2 : Value} {l : List UInt8} {S : List Nat} (h : Ahead W w N gp gh u1 u2 l) (hc : Chg S w w') (hS : ∀ k ∈ S, k < N ∧ W.heap.size ≤ k) : Both W w' gp gh ⟨l, false⟩ ⟨l, false⟩ :=
  ⟨.inr ⟨gp, rfl, u1, hc.heap h.code (fun hm => by have := (hS _ hm).1; have := h.old.1; omega), (h.own1.chg hc fun k hk hm => by have := (hS _ hm).1; have := (h.own1.lt k hk).1; omega).bytesAt⟩,
    ⟨u2, hc.heap h.doc (fun hm => by have := (hS _ hm).1; have := h.old.2; omega), (h.own2.chg hc fun k hk hm => by have := (hS _ hm).1; have := (h.own2.lt k hk).1; omega).bytesAt⟩,
    h.below.trans (hc.below h.below.size fun k hk => (hS k hk).2), ⟨by have := h.old.1; have := h.big; omega, by have := h.old.2; have := h.big; omega⟩, h.ne⟩
theorem err_same (b : Bool) : (errOf b == 2) = b := by cases b <;> rfl
end Go.Proofs.Ytniogemgkcoimaa
