/- plan's rises, of a row of ints. -/
import Derived.Test.YtpihogkhfmijcaaGreatPd
import Derived.Deep.RegionLaw
namespace Go.Proofs.YtpihogkhfmijcaaGreat
open Go.RowKit Go.Maps Go.Shelf
def encI (x : Int) : List Value := [.int .i64 x]
abbrev IsAt (w : World) (v : Value) (l : List Int) : Prop := RowAt (fun _ (_ : Int) => True) 1 encI w v l
theorem ident_any (x : Int) (w : World) : Calls Tryz.prog 83 #[.int .i64 x] w fun e w' => e = .returned (.int .i64 x) ∧ w' = w := by
  go_enter Tryz.func83, Tryz.ntmps83
  go_wp2
  go_ret
  exact ⟨rfl, rfl⟩
/-- each is less than the next -/
def Rise (l : List Int) : Prop := ∀ i x y, l[i]? = some x → l[i + 1]? = some y → x < y
def RisesPost (l : List Int) (w : World) (e : Ending) (w' : World) : Prop := ∃ R : Bool, e = .returned (.bool R) ∧ (R = true ↔ Rise l) ∧ Below w.heap.size w w'
set_option linter.unusedSimpArgs false in
set_option maxRecDepth 100000 in
set_option maxHeartbeats 2000000 in
theorem rises_any (a : Option Addr) (c : Nat) (l : List Int) (w : World) (h : IsAt w (.slice a l.length c) l) (hl : l.length ≤ 1000) :
    Calls Tryz.prog 82 #[.slice a l.length c, .func (.func 83) #[] #[]] w fun e w' => RisesPost l w e w' := by
  obtain ⟨N, hN⟩ : ∃ N, l.length = N := ⟨_, rfl⟩
  have HH := Lib.hid h
  have HN := Lib.hid hN
  rw [hN] at HH hl ⊢
  have hen := enters_of (P := Tryz.prog) (f := 83) Tryz.func83 (by kernel_rfl) rfl
  clear h hN
  go_enter Tryz.func82, Tryz.ntmps82
  go_wp2
  go_loopw [5] (fun z wr => ∃ i : Nat, (i ≤ N ∨ i = 0) ∧ z = .int .i64 ((i : Int) + 1) ∧ Hid (∀ j x y, j < i → l[j]? = some x → l[j + 1]? = some y → x < y) ∧ Hid (Below w.heap.size w wr)) (fun z _ => N + 1 - (intOf z).toNat)
  case atStart => exact ⟨0, .inr rfl, rfl, (fun j x y hj => by omega), Below.refl _ _⟩
  case round =>
    obtain ⟨i, hi, rfl, HG, HB⟩ := hrel
    by_cases hlt : i + 1 < N
    · have hltz : (i : Int) + 1 < (N : Int) := by omega
      obtain ⟨x, hx⟩ : ∃ x, l[i]? = some x := ⟨_, List.getElem?_eq_getElem (by rw [HN.out]; omega)⟩
      obtain ⟨y, hy⟩ : ∃ y, l[i + 1]? = some y := ⟨_, List.getElem?_eq_getElem (by rw [HN.out]; omega)⟩
      obtain ⟨b, off, he, -, -, hc⟩ := RowAt.cell HH.out hx
      subst he
      have c0 := hc 0 (by omega) wr HB.out
      obtain ⟨b', off', he, -, -, hc'⟩ := RowAt.cell HH.out hy
      cases he
      have c1 := hc' 0 (by omega) wr HB.out
      simp only [encI, Nat.mul_one, Nat.add_zero, List.getElem?_cons_zero] at c0 c1
      have HI := Lib.hid (fun (x : Int) (w : World) => ident_any x w)
      have HX := Lib.hid (And.intro hx hy)
      have q1 : ((i : Int) + 1).toNat = i + 1 := by omega
      have q2 : IntKind.i64.wrap ((i : Int) + 1 - 1) = (i : Int) := by rw [Int.add_sub_cancel]; exact wrap_small _ (by omega) (by omega)
      have q6 : IntKind.i64.wrap (i : Int) = (i : Int) := wrap_small _ (by omega) (by omega)
      have q3 : (0 : Int) ≤ (i : Int) := by omega
      have q4 : (i : Int) < (N : Int) := by omega
      have q5 : (0 : Int) ≤ (i : Int) + 1 := by omega
      have HBD := Lib.hid (fun q => drewN_below HB.out q)
      clear hc hc' hx hy
      by_cases hxy : x < y
      · have dg : decide (y ≤ x) = false := decide_eq_false (by omega)
        have dg2 : decide (x ≥ y) = false := decide_eq_false (by omega)
        have HGN := Lib.hid (show ∀ j p q, j < i + 1 → l[j]? = some p → l[j + 1]? = some q → p < q from fun j p q hj hp hq => by
          rcases Nat.lt_or_ge j i with h | h
          · exact HG.out j p q h hp hq
          · obtain rfl : j = i := by omega
            have e1 := HX.out.1
            have e2 := HX.out.2
            rw [hp] at e1
            rw [hq] at e2
            cases e1
            cases e2
            exact hxy)
        clear hxy
        go_wp2_with fail
        go_region_law (go_simp; with_reducible refine Calls.mono (HI.out _ _) ?_; rintro e w1 ⟨rfl, rfl⟩)
        all_goals go_wp2
        all_goals go_roundw
        all_goals (first | exact ⟨i + 1, .inl (by omega), by go_num, HGN.out, HBD.out _⟩ | exact ⟨i + 1, .inl (by omega), by go_num, HGN.out, HB.out⟩ | (simp [intOf]; omega))
      · have dg : decide (y ≤ x) = true := decide_eq_true (by omega)
        have dg2 : decide (x ≥ y) = true := decide_eq_true (by omega)
        have HF := Lib.hid (show ¬ Rise l from fun h => hxy (h i x y HX.out.1 HX.out.2))
        clear hxy
        go_wp2_with fail
        go_region_law (go_simp; with_reducible refine Calls.mono (HI.out _ _) ?_; rintro e w1 ⟨rfl, rfl⟩)
        all_goals go_wp2
        all_goals go_ret
        all_goals exact ⟨false, rfl, by simpa using HF.out, by first | exact HBD.out _ | exact HB.out⟩
    · have hltz : ¬ (i : Int) + 1 < (N : Int) := by omega
      have HT := Lib.hid (show Rise l from fun j x y hx hy => HG.out j x y (by have := (List.getElem?_eq_some_iff.1 hy).1; rw [HN.out] at this; omega) hx hy)
      go_wp2
      go_ret
      exact ⟨true, rfl, by simpa using HT.out, HB.out⟩
end Go.Proofs.YtpihogkhfmijcaaGreat
