/- awake: the chapter's examples. -/
import Derived.Test.YtpihogkhfmijcaaSt
namespace Go.Proofs.Ytpihogkhfmijcaa
open Go.RowKit Go.Maps Go.Shelf
set_option linter.unusedSimpArgs false
def p7 : PL := ⟨7, 1⟩
def p8 : PL := ⟨8, 1⟩
def p9 : PL := ⟨9, 1⟩
/-- the fetch of the examples, as it stands -/
def fe (at' since done : Int) (body : List Int) : FeM := ⟨1, 2, [p8, p9], at', since, 5, done, body⟩
def asks (p : PL) : RqM := ⟨p, 1, 2, 5⟩
theorem fe_in (a s d : Int) (b : List Int) (h : a = 0 ∨ a = 1) : (fe a s d b).In := ⟨by show 0 ≤ a; omega, by show a < 2; omega, by show 2 ≤ 1000; omega⟩
theorem three_may (a b : Nat) : (threeV a b).May := by
  refine ⟨⟨by show (1 : Int) ≤ 1; omega, by show (1 : Int) ≤ 4611686018427387903; omega⟩, ⟨by show (1 : Int) ≤ 2; omega, by show (2 : Int) ≤ 2; omega, by show (2 : Int) ≤ 5; omega⟩, ⟨by show 1 ≤ 1; omega, by show 1 ≤ 6; omega, fun x hx => ?_, fun i x hx => ?_⟩, .inl ⟨rfl, rfl⟩⟩
  · simp [threeV] at hx
    subst hx
    rfl
  · have hl := (List.getElem?_eq_some_iff.1 hx).1
    simp only [threeV, List.length_cons, List.length_nil] at hl
    obtain rfl : i = 0 := by omega
    simp [threeV] at hx
    subst hx
    refine ⟨by show (1 : Int) ≤ 9; omega, fun j y hj => by omega, by show (2 : Int) ≤ 3; omega, by show 3 ≤ 5; omega, ⟨fun z hz => ?_, ?_⟩⟩
    · simp only [triF, tri, List.mem_cons, List.not_mem_nil, or_false] at hz
      rcases hz with rfl | rfl | rfl <;> rfl
    · simp [triF, tri]
theorem new_three (a b : Nat) : newM (threeV a b) 2 5 3 = (fe 0 3 0 [], [asks p8]) := by rfl
theorem ok_three (a b : Nat) : NewOk (threeV a b) 2 := ⟨three_may a b, by omega, by omega, fun h => by cases h⟩
theorem step_b (r : RsV) (h : r.frm = p9 ∧ r.kind = 3 ∧ r.code = 3 ∧ r.ledger = 1 ∧ r.n = 2 ∧ r.epoch = 5) : (fe 0 3 0 []).still ((fe 0 3 0 []).takeM 3 r) = (fe 0 3 0 [], []) := by
  obtain ⟨h1, h2, h3, h4, h5, h6⟩ := h
  have hf : (fe 0 3 0 []).fits r := ⟨h2, h4, h5, h6⟩
  have e : (fe 0 3 0 []).takeM 3 r = (fe 0 3 0 [], []) := by rw [takeM_1 hf (.inl h3), h1]; rfl
  rw [e]
  rfl
theorem step_c (r : RsV) (h : r.frm = p8 ∧ r.kind = 3 ∧ r.code = 3 ∧ r.ledger = 1 ∧ r.n = 2 ∧ r.epoch = 5) : (fe 0 3 0 []).still ((fe 0 3 0 []).takeM 3 r) = (fe 1 3 0 [], [asks p9]) := by
  obtain ⟨h1, h2, h3, h4, h5, h6⟩ := h
  have hf : (fe 0 3 0 []).fits r := ⟨h2, h4, h5, h6⟩
  have e : (fe 0 3 0 []).takeM 3 r = (fe 1 3 0 [], [asks p9]) := by rw [takeM_1 hf (.inl h3), h1]; rfl
  rw [e]
  rfl
theorem step_d : (fe 1 3 0 []).still ((fe 1 3 0 []).tickM 5) = (fe 1 3 0 [], []) := by rfl
theorem step_g : (fe 1 3 0 []).still ((fe 1 3 0 []).tickM 6) = (fe 0 6 0 [], [asks p8]) := by rfl
theorem step_x (r : RsV) (h : r.frm = p9 ∧ r.kind = 3 ∧ r.code = 0 ∧ r.ledger = 1 ∧ r.n = 2 ∧ r.epoch = 5 ∧ r.body = [120]) : (fe 0 6 0 []).still ((fe 0 6 0 []).takeM 6 r) = (fe 0 6 1 [120], []) := by
  obtain ⟨h1, h2, h3, h4, h5, h6, h7⟩ := h
  have hf : (fe 0 6 0 []).fits r := ⟨h2, h4, h5, h6⟩
  have e : (fe 0 6 0 []).takeM 6 r = (fe 0 6 1 [120], []) := by
    rw [takeM_0 hf h3]
    unfold FeM.foundM
    rw [h1, h7]
    rfl
  rw [e]
  rfl
end Go.Proofs.Ytpihogkhfmijcaa
