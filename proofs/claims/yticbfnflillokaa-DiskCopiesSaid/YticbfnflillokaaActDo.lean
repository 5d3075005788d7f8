/- does: what an act does to a disk. -/
import Derived.Test.YticbfnflillokaaActs
namespace Go.Proofs.Yticbfnflillokaa
open Go.RowKit
/-- the disk behind an act -/
def Dk.act (d : Dk) (q : AV) : Dk :=
  if q.o = 0 then (d.append q.name q.b).2 else if q.o = 1 then (d.putF q.name q.b).2 else if q.o = 2 then (d.rename q.name q.to).2 else if q.o = 3 then (d.remove q.name).2
  else if q.o = 4 then d.sync.2 else if q.o = 5 then d else if q.o = 6 then (d.crash q.x q.y).2 else if q.o = 7 then d.start.2 else if q.o = 8 then d.wipe else d
/-- what an act leaves -/
def Acted (w : World) (J : Bks) (wi : World) (p N : Nat) (d : Dk) (e : Ending) (w' : World) : Prop := e = .returned (.tuple #[]) ∧ One w J w' p (N + 1) d ∧ Keep J wi w'
/-- the contracts of what does comes to, behind the box -/
structure Arms (w : World) (J : Bks) (wi : World) (p N : Nat) (d : Dk) (q : AV) (u : Value) : Prop where
  h0 : Calls Try.prog 14 #[.pointer (some ⟨p, 0, none⟩), .string ⟨q.name.toArray⟩, u] wi fun e w' => e = .returned (.int .i64 (d.append q.name q.b).1) ∧ One w J w' p (N + 1) (d.append q.name q.b).2 ∧ Keep J wi w'
  h1 : Calls Try.prog 19 #[.pointer (some ⟨p, 0, none⟩), .string ⟨q.name.toArray⟩, u] wi fun e w' => e = .returned (.int .i64 (d.putF q.name q.b).1) ∧ One w J w' p (N + 1) (d.putF q.name q.b).2 ∧ Keep J wi w'
  h2 : Calls Try.prog 20 #[.pointer (some ⟨p, 0, none⟩), .string ⟨q.name.toArray⟩, .string ⟨q.to.toArray⟩] wi fun e w' => e = .returned (.int .i64 (d.rename q.name q.to).1) ∧ One w J w' p (N + 1) (d.rename q.name q.to).2 ∧ Keep J wi w'
  h3 : Calls Try.prog 21 #[.pointer (some ⟨p, 0, none⟩), .string ⟨q.name.toArray⟩] wi fun e w' => e = .returned (.int .i64 (d.remove q.name).1) ∧ One w J w' p (N + 1) (d.remove q.name).2 ∧ Keep J wi w'
  h4 : Calls Try.prog 22 #[.pointer (some ⟨p, 0, none⟩)] wi fun e w' => e = .returned (.int .i64 d.sync.1) ∧ One w J w' p (N + 1) d.sync.2 ∧ Keep J wi w'
  h5 : Calls Try.prog 18 #[.pointer (some ⟨p, 0, none⟩), .string ⟨q.name.toArray⟩] wi fun e w' => ∃ a n c, e = .returned (.tuple #[.slice a n c, .int .i64 (lack d q.name [])]) ∧ One w J w' p (N + 1) d ∧ Keep J wi w'
  h6 : Calls Try.prog 23 #[.pointer (some ⟨p, 0, none⟩), .int .i64 q.x, .int .i64 q.y] wi fun e w' => e = .returned (.int .i64 (d.crash q.x q.y).1) ∧ One w J w' p (N + 1) (d.crash q.x q.y).2 ∧ Keep J wi w'
  h7 : Calls Try.prog 24 #[.pointer (some ⟨p, 0, none⟩)] wi fun e w' => e = .returned (.int .i64 d.start.1) ∧ One w J w' p (N + 1) d.start.2 ∧ Keep J wi w'
  h8 : Calls Try.prog 15 #[.pointer (some ⟨p, 0, none⟩)] wi fun e w' => e = .returned (.tuple #[]) ∧ One w J w' p (N + 1) d.wipe ∧ Keep J wi w'
  h9 : One w J wi p (N + 1) d
theorem One.narrow {w wi : World} {J X : Bks} {p N : Nat} {d : Dk} (h : One w (fun i => J i ∨ X i) wi p N d) : One w J wi p N d := by
  obtain ⟨O, I, hd, hO, hJ, hb⟩ := h
  exact ⟨O, I, hd, fun k hk => ⟨fun hj => (hO k hk).1 (.inl hj), (hO k hk).2⟩, fun k hk => hJ k (.inl hk), hb⟩
theorem One.arms {w wi : World} {J : Bks} {p N : Nat} {d : Dk} (h : One w J wi p N d) (hN : N ≤ 400000) (q : AV) (u : Value) (hu : BytesAt wi u q.b) (hok : q.ok) : Arms w J wi p N d q u where
  h0 := h.does fun _ _ hd => append_any hd hN q.name q.b u hu hok.1
  h1 := h.does fun _ _ hd => put_any hd hN q.name q.b u hu hok.1
  h2 := h.does fun _ _ hd => rename_any hd hN q.name q.to hok.1 hok.2.1
  h3 := h.does fun _ _ hd => remove_any hd hN q.name hok.1
  h4 := h.does fun _ _ hd => sync_any hd hN
  h5 := (h.read q.name hok.1).mono fun _ _ ⟨a, n, c, _, he, _, h1, h2⟩ => ⟨a, n, c, he, (h1.narrow).mono (Nat.le_succ N), h2⟩
  h6 := h.does fun _ _ hd => crash_any hd hN q.x q.y
  h7 := h.does fun _ _ hd => start_any hd
  h8 := h.wipe hN
  h9 := h.mono (Nat.le_succ N)
set_option maxRecDepth 100000 in
set_option maxHeartbeats 4000000 in
theorem does_any {w wi : World} {J : Bks} {p N : Nat} {d : Dk} (h : One w J wi p N d) (hN : N ≤ 400000) (q : AV) (u : Value) (hu : BytesAt wi u q.b) (hok : q.ok) :
    Calls Try.prog 32 #[.pointer (some ⟨p, 0, none⟩), .agg (q.cells u).toArray] wi (Acted w J wi p N (d.act q)) := by
  have hb1 : Below wi.heap.size wi (wi.alloc (.cells (q.cells u).toArray 33)) := Go.Joins.below_alloc1 _ _
  obtain ⟨h1, k1⟩ := h.still hb1
  have HA := Lib.hid (h1.arms hN q u (hu.belowB hb1 (Nat.le_refl _)) hok)
  have HK := Lib.hid k1
  obtain ⟨ua, uc, rfl, _⟩ := hu.form
  clear h hb1 h1 k1 hu hok hN
  obtain ⟨o, nm, to, b, x, y⟩ := q
  obtain ⟨n, hn⟩ : ∃ n, b.length = n := ⟨_, rfl⟩
  have HD : Hid (∀ z, z = d.act ⟨o, nm, to, b, x, y⟩ → z = d.act ⟨o, nm, to, b, x, y⟩) := fun _ h => h
  dsimp only [AV.cells] at HA HK ⊢
  rw [hn] at HA HK ⊢
  clear hn
  by_cases e0 : o = 0
  · subst e0
    go_enter Try.func32, Try.ntmps32
    go_wp2_with (go_at_call 14; refine HA.out.h0.mono ?_; rintro e w1 ⟨rfl, h2, k2⟩; have HR : Hid (Acted w J wi p N (d.act ⟨0, nm, to, b, x, y⟩) (.returned (.tuple #[])) w1) := ⟨rfl, h2, HK.out.trans k2⟩; clear h2 k2)
    exact bodyPost_end (results_none rfl _ _ _) rfl HR.out
  by_cases e1 : o = 1
  · subst e1
    go_enter Try.func32, Try.ntmps32
    go_wp2_with (go_at_call 19; refine HA.out.h1.mono ?_; rintro e w1 ⟨rfl, h2, k2⟩; have HR : Hid (Acted w J wi p N (d.act ⟨1, nm, to, b, x, y⟩) (.returned (.tuple #[])) w1) := ⟨rfl, h2, HK.out.trans k2⟩; clear h2 k2)
    exact bodyPost_end (results_none rfl _ _ _) rfl HR.out
  by_cases e2 : o = 2
  · subst e2
    go_enter Try.func32, Try.ntmps32
    go_wp2_with (go_at_call 20; refine HA.out.h2.mono ?_; rintro e w1 ⟨rfl, h2, k2⟩; have HR : Hid (Acted w J wi p N (d.act ⟨2, nm, to, b, x, y⟩) (.returned (.tuple #[])) w1) := ⟨rfl, h2, HK.out.trans k2⟩; clear h2 k2)
    exact bodyPost_end (results_none rfl _ _ _) rfl HR.out
  by_cases e3 : o = 3
  · subst e3
    go_enter Try.func32, Try.ntmps32
    go_wp2_with (go_at_call 21; refine HA.out.h3.mono ?_; rintro e w1 ⟨rfl, h2, k2⟩; have HR : Hid (Acted w J wi p N (d.act ⟨3, nm, to, b, x, y⟩) (.returned (.tuple #[])) w1) := ⟨rfl, h2, HK.out.trans k2⟩; clear h2 k2)
    exact bodyPost_end (results_none rfl _ _ _) rfl HR.out
  by_cases e4 : o = 4
  · subst e4
    go_enter Try.func32, Try.ntmps32
    go_wp2_with (go_at_call 22; refine HA.out.h4.mono ?_; rintro e w1 ⟨rfl, h2, k2⟩; have HR : Hid (Acted w J wi p N (d.act ⟨4, nm, to, b, x, y⟩) (.returned (.tuple #[])) w1) := ⟨rfl, h2, HK.out.trans k2⟩; clear h2 k2)
    exact bodyPost_end (results_none rfl _ _ _) rfl HR.out
  by_cases e5 : o = 5
  · subst e5
    go_enter Try.func32, Try.ntmps32
    go_wp2_with (go_at_call 18; refine HA.out.h5.mono ?_; rintro e w1 ⟨ra, rn, rc, rfl, h2, k2⟩; have HR : Hid (Acted w J wi p N (d.act ⟨5, nm, to, b, x, y⟩) (.returned (.tuple #[])) w1) := ⟨rfl, h2, HK.out.trans k2⟩; clear h2 k2)
    exact bodyPost_end (results_none rfl _ _ _) rfl HR.out
  by_cases e6 : o = 6
  · subst e6
    go_enter Try.func32, Try.ntmps32
    go_wp2_with (go_at_call 23; refine HA.out.h6.mono ?_; rintro e w1 ⟨rfl, h2, k2⟩; have HR : Hid (Acted w J wi p N (d.act ⟨6, nm, to, b, x, y⟩) (.returned (.tuple #[])) w1) := ⟨rfl, h2, HK.out.trans k2⟩; clear h2 k2)
    exact bodyPost_end (results_none rfl _ _ _) rfl HR.out
  by_cases e7 : o = 7
  · subst e7
    go_enter Try.func32, Try.ntmps32
    go_wp2_with (go_at_call 24; refine HA.out.h7.mono ?_; rintro e w1 ⟨rfl, h2, k2⟩; have HR : Hid (Acted w J wi p N (d.act ⟨7, nm, to, b, x, y⟩) (.returned (.tuple #[])) w1) := ⟨rfl, h2, HK.out.trans k2⟩; clear h2 k2)
    exact bodyPost_end (results_none rfl _ _ _) rfl HR.out
  by_cases e8 : o = 8
  · subst e8
    go_enter Try.func32, Try.ntmps32
    go_wp2_with (go_at_call 15; refine HA.out.h8.mono ?_; rintro e w1 ⟨rfl, h2, k2⟩; have HR : Hid (Acted w J wi p N (d.act ⟨8, nm, to, b, x, y⟩) (.returned (.tuple #[])) w1) := ⟨rfl, h2, HK.out.trans k2⟩; clear h2 k2)
    exact bodyPost_end (results_none rfl _ _ _) rfl HR.out
  · have HE : Hid (d.act ⟨o, nm, to, b, x, y⟩ = d) := by show d.act _ = d; simp [Dk.act, e0, e1, e2, e3, e4, e5, e6, e7, e8]
    rw [HE.out]
    have HR : Hid (Acted w J wi p N d (.returned (.tuple #[])) (wi.alloc (.cells #[.int .i64 o, .string ⟨nm.toArray⟩, .string ⟨to.toArray⟩, .slice ua n uc, .int .i64 x, .int .i64 y] 33))) := ⟨rfl, HA.out.h9, HK.out⟩
    clear HA HK
    go_enter Try.func32, Try.ntmps32
    go_wp2
    exact bodyPost_end (results_none rfl _ _ _) rfl HR.out
end Go.Proofs.Yticbfnflillokaa
