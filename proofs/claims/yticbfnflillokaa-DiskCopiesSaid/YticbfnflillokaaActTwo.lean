/- does, for whatever is kept of the world; two disks. -/
import Derived.Test.YticbfnflillokaaActDo
import Derived.Test.YticbfnflillokaaAlike
namespace Go.Proofs.Yticbfnflillokaa
open Go.RowKit
/-- the contracts of what does comes to, behind the box, St being what is kept -/
structure ArmsOf (St : Dk → World → Prop) (wi : World) (p : Nat) (d : Dk) (q : AV) (u : Value) : Prop where
  h0 : Calls Try.prog 14 #[.pointer (some ⟨p, 0, none⟩), .string ⟨q.name.toArray⟩, u] wi fun e w' => e = .returned (.int .i64 (d.append q.name q.b).1) ∧ St (d.append q.name q.b).2 w'
  h1 : Calls Try.prog 19 #[.pointer (some ⟨p, 0, none⟩), .string ⟨q.name.toArray⟩, u] wi fun e w' => e = .returned (.int .i64 (d.putF q.name q.b).1) ∧ St (d.putF q.name q.b).2 w'
  h2 : Calls Try.prog 20 #[.pointer (some ⟨p, 0, none⟩), .string ⟨q.name.toArray⟩, .string ⟨q.to.toArray⟩] wi fun e w' => e = .returned (.int .i64 (d.rename q.name q.to).1) ∧ St (d.rename q.name q.to).2 w'
  h3 : Calls Try.prog 21 #[.pointer (some ⟨p, 0, none⟩), .string ⟨q.name.toArray⟩] wi fun e w' => e = .returned (.int .i64 (d.remove q.name).1) ∧ St (d.remove q.name).2 w'
  h4 : Calls Try.prog 22 #[.pointer (some ⟨p, 0, none⟩)] wi fun e w' => e = .returned (.int .i64 d.sync.1) ∧ St d.sync.2 w'
  h5 : Calls Try.prog 18 #[.pointer (some ⟨p, 0, none⟩), .string ⟨q.name.toArray⟩] wi fun e w' => ∃ a n c, e = .returned (.tuple #[.slice a n c, .int .i64 (lack d q.name [])]) ∧ St d w'
  h6 : Calls Try.prog 23 #[.pointer (some ⟨p, 0, none⟩), .int .i64 q.x, .int .i64 q.y] wi fun e w' => e = .returned (.int .i64 (d.crash q.x q.y).1) ∧ St (d.crash q.x q.y).2 w'
  h7 : Calls Try.prog 24 #[.pointer (some ⟨p, 0, none⟩)] wi fun e w' => e = .returned (.int .i64 d.start.1) ∧ St d.start.2 w'
  h8 : Calls Try.prog 15 #[.pointer (some ⟨p, 0, none⟩)] wi fun e w' => e = .returned (.tuple #[]) ∧ St d.wipe w'
  h9 : St d wi
set_option maxRecDepth 100000 in
set_option maxHeartbeats 4000000 in
theorem does_of {St : Dk → World → Prop} {wi : World} {p : Nat} {d : Dk} (q : AV) (u : Value) (hu : BytesAt wi u q.b) (ha : ArmsOf St (wi.alloc (.cells (q.cells u).toArray 33)) p d q u) :
    Calls Try.prog 32 #[.pointer (some ⟨p, 0, none⟩), .agg (q.cells u).toArray] wi fun e w' => e = .returned (.tuple #[]) ∧ St (d.act q) w' := by
  have HA := Lib.hid ha
  obtain ⟨ua, uc, rfl, _⟩ := hu.form
  clear hu ha
  obtain ⟨o, nm, to, b, x, y⟩ := q
  obtain ⟨n, hn⟩ : ∃ n, b.length = n := ⟨_, rfl⟩
  dsimp only [AV.cells] at HA ⊢
  rw [hn] at HA ⊢
  clear hn
  by_cases e0 : o = 0
  · subst e0
    go_enter Try.func32, Try.ntmps32
    go_wp2_with (go_at_call 14; refine HA.out.h0.mono ?_; rintro e w1 ⟨rfl, h2⟩; have HR : Hid (St (d.act ⟨0, nm, to, b, x, y⟩) w1) := h2; clear h2)
    exact bodyPost_end (results_none rfl _ _ _) rfl ⟨rfl, HR.out⟩
  by_cases e1 : o = 1
  · subst e1
    go_enter Try.func32, Try.ntmps32
    go_wp2_with (go_at_call 19; refine HA.out.h1.mono ?_; rintro e w1 ⟨rfl, h2⟩; have HR : Hid (St (d.act ⟨1, nm, to, b, x, y⟩) w1) := h2; clear h2)
    exact bodyPost_end (results_none rfl _ _ _) rfl ⟨rfl, HR.out⟩
  by_cases e2 : o = 2
  · subst e2
    go_enter Try.func32, Try.ntmps32
    go_wp2_with (go_at_call 20; refine HA.out.h2.mono ?_; rintro e w1 ⟨rfl, h2⟩; have HR : Hid (St (d.act ⟨2, nm, to, b, x, y⟩) w1) := h2; clear h2)
    exact bodyPost_end (results_none rfl _ _ _) rfl ⟨rfl, HR.out⟩
  by_cases e3 : o = 3
  · subst e3
    go_enter Try.func32, Try.ntmps32
    go_wp2_with (go_at_call 21; refine HA.out.h3.mono ?_; rintro e w1 ⟨rfl, h2⟩; have HR : Hid (St (d.act ⟨3, nm, to, b, x, y⟩) w1) := h2; clear h2)
    exact bodyPost_end (results_none rfl _ _ _) rfl ⟨rfl, HR.out⟩
  by_cases e4 : o = 4
  · subst e4
    go_enter Try.func32, Try.ntmps32
    go_wp2_with (go_at_call 22; refine HA.out.h4.mono ?_; rintro e w1 ⟨rfl, h2⟩; have HR : Hid (St (d.act ⟨4, nm, to, b, x, y⟩) w1) := h2; clear h2)
    exact bodyPost_end (results_none rfl _ _ _) rfl ⟨rfl, HR.out⟩
  by_cases e5 : o = 5
  · subst e5
    go_enter Try.func32, Try.ntmps32
    go_wp2_with (go_at_call 18; refine HA.out.h5.mono ?_; rintro e w1 ⟨ra, rn, rc, rfl, h2⟩; have HR : Hid (St (d.act ⟨5, nm, to, b, x, y⟩) w1) := h2; clear h2)
    exact bodyPost_end (results_none rfl _ _ _) rfl ⟨rfl, HR.out⟩
  by_cases e6 : o = 6
  · subst e6
    go_enter Try.func32, Try.ntmps32
    go_wp2_with (go_at_call 23; refine HA.out.h6.mono ?_; rintro e w1 ⟨rfl, h2⟩; have HR : Hid (St (d.act ⟨6, nm, to, b, x, y⟩) w1) := h2; clear h2)
    exact bodyPost_end (results_none rfl _ _ _) rfl ⟨rfl, HR.out⟩
  by_cases e7 : o = 7
  · subst e7
    go_enter Try.func32, Try.ntmps32
    go_wp2_with (go_at_call 24; refine HA.out.h7.mono ?_; rintro e w1 ⟨rfl, h2⟩; have HR : Hid (St (d.act ⟨7, nm, to, b, x, y⟩) w1) := h2; clear h2)
    exact bodyPost_end (results_none rfl _ _ _) rfl ⟨rfl, HR.out⟩
  by_cases e8 : o = 8
  · subst e8
    go_enter Try.func32, Try.ntmps32
    go_wp2_with (go_at_call 15; refine HA.out.h8.mono ?_; rintro e w1 ⟨rfl, h2⟩; have HR : Hid (St (d.act ⟨8, nm, to, b, x, y⟩) w1) := h2; clear h2)
    exact bodyPost_end (results_none rfl _ _ _) rfl ⟨rfl, HR.out⟩
  · have HE : Hid (d.act ⟨o, nm, to, b, x, y⟩ = d) := by show d.act _ = d; simp [Dk.act, e0, e1, e2, e3, e4, e5, e6, e7, e8]
    rw [HE.out]
    have HR : Hid (St d (wi.alloc (.cells #[.int .i64 o, .string ⟨nm.toArray⟩, .string ⟨to.toArray⟩, .slice ua n uc, .int .i64 x, .int .i64 y] 33))) := HA.out.h9
    clear HA
    go_enter Try.func32, Try.ntmps32
    go_wp2
    exact bodyPost_end (results_none rfl _ _ _) rfl ⟨rfl, HR.out⟩
theorem Two.mono {w wi : World} {J : Bks} {p N N' q M M' : Nat} {d c : Dk} (h : Two w J wi p N d q M c) (hN : N ≤ N') (hM : M ≤ M') : Two w J wi p N' d q M' c := by
  obtain ⟨O, I, O2, I2, h1, h2, r⟩ := h
  exact ⟨O, I, O2, I2, h1.mono hN, h2.mono hM, r⟩
theorem Two.wipe {w wi : World} {J : Bks} {p N q M : Nat} {d c : Dk} (h : Two w J wi p N d q M c) (hN : N ≤ 400000) : Calls Try.prog 15 #[.pointer (some ⟨p, 0, none⟩)] wi fun e w' => e = .returned (.tuple #[]) ∧ Two w J w' p (N + 1) d.wipe q M c ∧ Keep J wi w' := by
  obtain ⟨O, I, O2, I2, h1, h2, hO, hO2, hs, hs2, hJ, hb⟩ := h
  refine (wipe_any h1 hN).mono ?_
  rintro e w' ⟨rfl, O', I', hd', hst⟩
  exact ⟨rfl, Two.step h1 h2 hO hO2 hs hs2 hJ hb hd' hst⟩
/-- what is kept of two disks -/
abbrev StTwo (w : World) (J : Bks) (wi : World) (p N q M : Nat) (c : Dk) (d : Dk) (w' : World) : Prop := Two w J w' p (N + 1) d q M c ∧ Keep J wi w'
theorem Two.arms {w wi : World} {J : Bks} {p N q M : Nat} {d c : Dk} (h : Two w J wi p N d q M c) (hN : N ≤ 400000) (x : AV) (u : Value) (hu : BytesAt wi u x.b) (hok : x.ok) : ArmsOf (StTwo w J wi p N q M c) wi p d x u where
  h0 := h.does fun _ _ hd => append_any hd hN x.name x.b u hu hok.1
  h1 := h.does fun _ _ hd => put_any hd hN x.name x.b u hu hok.1
  h2 := h.does fun _ _ hd => rename_any hd hN x.name x.to hok.1 hok.2.1
  h3 := h.does fun _ _ hd => remove_any hd hN x.name hok.1
  h4 := h.does fun _ _ hd => sync_any hd hN
  h5 := (h.read x.name hok.1).mono fun _ _ ⟨a, n, c, _, he, _, h1, h2⟩ => ⟨a, n, c, he, (h1.narrow fun _ h => .inl h).mono (Nat.le_succ N) (Nat.le_refl _), h2⟩
  h6 := h.does fun _ _ hd => crash_any hd hN x.x x.y
  h7 := h.does fun _ _ hd => start_any hd
  h8 := h.wipe hN
  h9 := ⟨h.mono (Nat.le_succ N) (Nat.le_refl _), Keep.refl _ _⟩
theorem Two.acts {w wi : World} {J : Bks} {p N q M : Nat} {d c : Dk} (h : Two w J wi p N d q M c) (hN : N ≤ 400000) (x : AV) (u : Value) (hu : BytesAt wi u x.b) (hok : x.ok) :
    Calls Try.prog 32 #[.pointer (some ⟨p, 0, none⟩), .agg (x.cells u).toArray] wi fun e w' => e = .returned (.tuple #[]) ∧ Two w J w' p (N + 1) (d.act x) q M c ∧ Keep J wi w' := by
  have hb1 : Below wi.heap.size wi (wi.alloc (.cells (x.cells u).toArray 33)) := Go.Joins.below_alloc1 _ _
  obtain ⟨h1, k1⟩ := h.still hb1
  refine (does_of x u hu (h1.arms hN x u (hu.belowB hb1 (Nat.le_refl _)) hok)).mono ?_
  rintro e w' ⟨rfl, h2, k2⟩
  exact ⟨rfl, h2, k1.trans k2⟩
/-- what an error answers changes nothing -/
theorem append_err {d : Dk} {k l : Bs} (h : (d.append k l).1 ≠ 0) : (d.append k l).2 = d := by
  unfold Dk.append at h ⊢
  split
  · rfl
  · split
    · rfl
    · rename_i h1 h2; rw [if_neg h1, if_neg h2] at h; exact absurd rfl h
theorem putF_err {d : Dk} {k l : Bs} (h : (d.putF k l).1 ≠ 0) : (d.putF k l).2 = d := by
  unfold Dk.putF at h ⊢
  split
  · rfl
  · split
    · rfl
    · rename_i h1 h2; rw [if_neg h1, if_neg h2] at h; exact absurd rfl h
theorem rename_err {d : Dk} {k m : Bs} (h : (d.rename k m).1 ≠ 0) : (d.rename k m).2 = d := by
  unfold Dk.rename at h ⊢
  split
  · rfl
  · split
    · rfl
    · rename_i h1 h2; rw [if_neg h1, if_neg h2] at h; exact absurd rfl h
theorem remove_err {d : Dk} {k : Bs} (h : (d.remove k).1 ≠ 0) : (d.remove k).2 = d := by
  unfold Dk.remove at h ⊢
  split
  · rfl
  · rename_i h1; rw [if_neg h1] at h; exact absurd rfl h
theorem Dk.act_five {d : Dk} {x : AV} (h : x.o = 5) : d.act x = d := by unfold Dk.act; simp [h]
theorem append_cap (d : Dk) (k l : Bs) : (d.append k l).2.cap = d.cap := by unfold Dk.append; split; rfl; split <;> rfl
theorem putF_cap (d : Dk) (k l : Bs) : (d.putF k l).2.cap = d.cap := by unfold Dk.putF; split; rfl; split <;> rfl
theorem rename_cap (d : Dk) (k m : Bs) : (d.rename k m).2.cap = d.cap := by unfold Dk.rename; split; rfl; split <;> rfl
theorem remove_cap (d : Dk) (k : Bs) : (d.remove k).2.cap = d.cap := by unfold Dk.remove; split <;> rfl
theorem Dk.act_cap (d : Dk) (x : AV) : (d.act x).cap = d.cap := by
  unfold Dk.act
  repeat' split
  · exact append_cap _ _ _
  · exact putF_cap _ _ _
  · exact rename_cap _ _ _
  · exact remove_cap _ _
  · unfold Dk.sync; split <;> rfl
  · rfl
  · unfold Dk.crash; split <;> rfl
  · unfold Dk.start; split <;> rfl
  · rfl
  · rfl
end Go.Proofs.Yticbfnflillokaa
