/- What a reader takes: a text. -/
import Derived.Test.YtniogemgkcoimaaRead2
namespace Go.Proofs.Ytniogemgkcoimaa
open Go.RowKit
/-- what is taken as a text: it, or it is given up -/
def TextPost (g : Nat) (bad : Bool) (most : Int) (l : List UInt8) (w : World) (e : Ending) (w' : World) : Prop :=
  (readPart 3 most l = none → GaveUp g bad w e w') ∧ ∀ n s t, readPart 3 most l = some ((n, s), t) → e = .returned (.string ⟨s.toArray⟩) ∧ RdAt w' g ⟨t, bad⟩ ∧ Chg [g] w w'
theorem TextPost.gave {g : Nat} {bad : Bool} {most : Int} {l : List UInt8} {w w' : World} {e : Ending} (h : readPart 3 most l = none) (hg : GaveUp g bad w e w') : TextPost g bad most l w e w' :=
  ⟨fun _ => hg, fun n s t hs => by rw [h] at hs; cases hs⟩
theorem text3_none {most : Int} {l : List UInt8} (h : readShort l = none) : readPart 3 most l = none := by simp [readPart, h]
theorem text3_no {most : Int} {l t : List UInt8} {n : Nat} (h : readShort l = some (n, t)) (h2 : ¬ (0 ≤ most ∧ (n : Int) ≤ most ∧ n ≤ t.length)) : readPart 3 most l = none := by simp only [readPart, h]; rw [if_neg h2]
theorem text3_yes {most : Int} {l t : List UInt8} {n : Nat} (h : readShort l = some (n, t)) (h2 : 0 ≤ most ∧ (n : Int) ≤ most ∧ n ≤ t.length) : readPart 3 most l = some ((0, t.take n), t.drop n) := by simp only [readPart, h]; rw [if_pos h2]
set_option maxRecDepth 100000 in
set_option maxHeartbeats 1000000 in
theorem text_any (g : Nat) (most : Int) (l : List UInt8) (bad : Bool) (w : World) (hm : -9223372036854775808 ≤ most ∧ most ≤ 9223372036854775807) (hr : RdAt w g ⟨l, bad⟩) :
    Calls Try.prog 51 #[.pointer (some ⟨g, 0, none⟩), .int .i64 most] w (TextPost g bad most l w) := by
  have HR := Lib.hid hr
  have HM := Lib.hid hm
  clear hr hm
  cases hrs : readShort l with
  | none =>
    have HN := Lib.hid hrs
    clear hrs
    go_enter Try.func51, Try.ntmps51
    go_wp2_with (go_at_call 49; refine (short_any g l bad _ HR.out).mono ?_; rintro e w1 ⟨hp, -⟩; obtain ⟨rfl, hr, hc⟩ := hp HN.out)
    exact ⟨rfl, .gave (text3_none HN.out) ⟨rfl, hr, hc⟩⟩
  | some p =>
    obtain ⟨n, t⟩ := p
    have HN := Lib.hid hrs
    have hn := (readShort_iff l t n).1 hrs |>.1
    have Hn := Lib.hid hn
    clear hrs hn
    by_cases h1 : most < 0
    · have HX : Hid (readPart 3 most l = none) := text3_no HN.out (by omega)
      go_enter Try.func51, Try.ntmps51
      go_wp2_with (go_at_call 49; refine (short_any g l bad _ HR.out).mono ?_; rintro e w1 ⟨-, hp⟩; obtain ⟨rfl, hr, hc⟩ := hp _ _ HN.out; have HR1 := Lib.hid (And.intro hr hc); clear hr hc hp)
      exact ⟨rfl, .gave HX.out ⟨rfl, ⟨_, HR1.out.1⟩, HR1.out.2⟩⟩
    · obtain ⟨M, rfl⟩ : ∃ M : Nat, most = M := ⟨most.toNat, by omega⟩
      have hM : M ≤ 9223372036854775807 := by have := HM.out; omega
      by_cases h2 : M < n
      · have HX : Hid (readPart 3 (M : Int) l = none) := text3_no HN.out (by omega)
        go_enter Try.func51, Try.ntmps51
        go_wp2_with (go_at_call 49; refine (short_any g l bad _ HR.out).mono ?_; rintro e w1 ⟨-, hp⟩; obtain ⟨rfl, hr, hc⟩ := hp _ _ HN.out; have HR1 := Lib.hid (And.intro hr hc); clear hr hc hp)
        exact ⟨rfl, .gave HX.out ⟨rfl, ⟨_, HR1.out.1⟩, HR1.out.2⟩⟩
      · by_cases h3 : n ≤ t.length
        · have HX : Hid (readPart 3 (M : Int) l = some ((0, t.take n), t.drop n)) := text3_yes HN.out (by omega)
          go_enter Try.func51, Try.ntmps51
          go_wp2_with (first | (go_at_call 49; refine (short_any g l bad _ HR.out).mono ?_; rintro e w1 ⟨-, hp⟩; obtain ⟨rfl, hr, hc⟩ := hp _ _ HN.out; have HR1 := Lib.hid (And.intro hr hc); clear hr hc hp) | (go_at_call 54; refine (take_yes g n t bad _ HR1.out.1 h3).mono ?_; rintro e w2 ⟨a, rfl, hb, hr, hc⟩; have HR2 := Lib.hid (And.intro hr (HR1.out.2.trans hc)); have hs := string_bytes hb; clear hb hr hc))
          go_ret
          exact ⟨(fun hs => by rw [HX.out] at hs; cases hs), fun n' s' t' hs => by rw [HX.out] at hs; cases hs; exact ⟨rfl, HR2.out⟩⟩
        · have HX : Hid (readPart 3 (M : Int) l = none) := text3_no HN.out (by omega)
          go_enter Try.func51, Try.ntmps51
          go_wp2_with (first | (go_at_call 49; refine (short_any g l bad _ HR.out).mono ?_; rintro e w1 ⟨-, hp⟩; obtain ⟨rfl, hr, hc⟩ := hp _ _ HN.out; have HR1 := Lib.hid (And.intro hr hc); clear hr hc hp) | (go_at_call 54; refine (take_no g n ⟨t, bad⟩ _ HR1.out.1 (.inr (by dsimp only; omega))).mono ?_; rintro e w2 ⟨rfl, rfl⟩))
          exact ⟨rfl, .gave HX.out ⟨rfl, ⟨_, HR1.out.1⟩, HR1.out.2⟩⟩
end Go.Proofs.Ytniogemgkcoimaa
